/- lotdrawerkeep.PoolEven: the walk. -/
import Derived.Test.YtimeimagncechaaZk
import Derived.Test.YtimeimagncechaaZs
import Derived.Shelf.Abstract
namespace Go.Proofs.Ytimeimagncechaa
open Go.RowKit Go.Deep Go.Maps

theorem enters_even (args : Array Value) (w : World) : (callFunc 22 args).run Try.prog w = .ok (.enter 22 args) w := enters_of Try.func22 (by kernel_rfl) rfl args w
/-- The map of counts, and the variable that holds it. -/
def InvE (room n M t : Nat) (k : Nat) (w : World) : Prop := CntM w M (seenN room n k) ∧ Bs 38 w t [.map (some M)]
theorem rowsE (room n : Nat) (w : World) (M t : Nat) (h1 : 1 ≤ room) (h2 : room ≤ n) (h3 : n ≤ 6) (hI : InvE room n M t 0 w) :
    Calls Try.prog 21 #[.int .i64 room, .int .i64 n, .func (.func 22) #[] #[.pointer (some ⟨t, 0, none⟩)]] w fun e b => e = .returned (.bool true) ∧ InvE room n M t (fc n) b ∧ Kp (fun k => k = M) w b := by
  refine rows_any room n _ _ (fun k => k = M) (InvE room n M t) w h1 h2 h3 enters_even (fun k hk => by subst hk; exact hI.1.lt) hI (fun k a b h hb => ⟨h.1.later hb, h.2.below hb (Bs.lt h.2)⟩) ?_
  intro k A ca a hk hI hIP
  have hne : t ≠ M := hI.1.ne hI.2
  have hf := fc_le n h3
  have hc := evenLook_any room n A ca (resN room n k) t M (seenN room n k) a hIP (fun x hx => Nat.lt_of_lt_of_le (mem_resN hx) h3) (Nat.le_trans (resN_len _ _ _) (by omega)) hI.2 hI.1 (by rw [seenN_len]; omega)
  rw [← inN_len] at hc
  refine hc.mono ?_
  rintro e b ⟨rfl, hM, hg⟩
  exact ⟨rfl, ⟨hM, (hg.block t (Bs.lt hI.2) (fun e => hne (by injection e))).trans hI.2⟩, Kp.of_grown hg rfl⟩
theorem wn_step {n k : Nat} (h : k ≤ n) : ((wn n k : Int) * ((n - k : Nat) : Int)).tdiv ((k : Int) + 1) = ((wn n (k + 1) : Nat) : Int) := by
  rw [show (k : Int) + 1 = ((k + 1 : Nat) : Int) by omega, ← Int.natCast_mul, ← Int.ofNat_tdiv]
  rfl

set_option maxRecDepth 100000 in
set_option maxHeartbeats 4000000 in
theorem poolEven_walk (room n : Int) (w : World) :
    Calls Try.prog 5 #[.int .i64 room, .int .i64 n] w fun e w' => e = .returned (.bool true) ∧ Below w.heap.size w w' := by
  have CA := Lib.hid (alive6_any w)
  have hmm := @run_makeMap Try.prog
  have hmf : ∀ (fn : Fn) (first cap : Array Value) (w : World), (Instr.makeFunc fn first cap).run Try.prog w = .ok (.func fn first cap) w := fun _ _ _ _ => rfl
  go_enter Try.func5, Try.ntmps5
  go_wp2_with fail
  refine CA.out.mono ?_
  rintro e w1 ⟨rfl, hb1⟩
  have HB := Lib.hid hb1
  clear CA hb1
  rcases (show room < 1 ∨ (1 ≤ room ∧ n < room) ∨ (1 ≤ room ∧ room ≤ n ∧ 6 < n) ∨ (1 ≤ room ∧ room ≤ n ∧ n ≤ 6) by omega) with h | ⟨h, h2⟩ | ⟨h, h2, h3⟩ | ⟨h, h2, h3⟩
  · go_wp2
    go_ret
    exact ⟨rfl, HB.out⟩
  · go_wp2
    go_ret
    exact ⟨rfl, HB.out⟩
  · go_wp2
    go_ret
    exact ⟨rfl, HB.out⟩
  · obtain ⟨R, rfl⟩ : ∃ R : Nat, room = R := ⟨room.toNat, by omega⟩
    obtain ⟨N, rfl⟩ : ∃ N : Nat, n = N := ⟨n.toNat, by omega⟩
    have r1 : 1 ≤ R := by omega
    have r2 : R ≤ N := by omega
    have r3 : N ≤ 6 := by omega
    have b1 : Below w1.heap.size w1 ((w1.alloc (.map #[] 0)).alloc (.cells #[.map (some w1.heap.size)] 38)) := ((Below.refl _ _).alloc (Nat.le_refl _) _).alloc (by simp) _
    have hI : InvE R N w1.heap.size (w1.heap.size + 1) 0 ((w1.alloc (.map #[] 0)).alloc (.cells #[.map (some w1.heap.size)] 38)) :=
      ⟨(CntM.made w1).of_block (heap_alloc_old _ _ (by simp)), heap_alloc2_new w1 _ _⟩
    have CR := Lib.hid (rowsE R N _ w1.heap.size (w1.heap.size + 1) r1 r2 r3 hI)
    have HB2 : Hid (Below w.heap.size w ((w1.alloc (.map #[] 0)).alloc (.cells #[.map (some w1.heap.size)] 38))) := HB.out.trans (b1.mono HB.out.size)
    have hM0 : w.heap.size ≤ w1.heap.size := HB.out.size
    clear b1 hI
    go_wp2_with fail
    refine CR.out.mono ?_
    rintro e w2 ⟨rfl, hI, hK⟩
    have HI := Lib.hid hI
    have HB3 : Hid (Below w.heap.size w w2) := Kp.below HB2.out hK (fun k hk => by subst hk; exact hM0)
    clear hI hK CR HB2 HB
    have hf1 := fc_le N r3
    generalize w1.heap.size = M at *
    go_wp2_with fail
    go_loopw [8, 9] (fun av iv wr => ∃ j : Nat, 1 ≤ j ∧ j ≤ N ∧ av = .int .i64 (fc j : Nat) ∧ iv = .int .i64 ((j : Int) + 1) ∧ wr = w2) (fun _ iv _ => N + 1 - (intOf iv).toNat)
    case atStart => exact ⟨1, by omega, by omega, rfl, rfl, rfl⟩
    case round =>
      obtain ⟨j, hj1, hj, rfl, rfl, rfl⟩ := hrel
      have hfj := fc_le j (by omega)
      by_cases hlt : j < N
      · have ef : (fc j : Int) * ((j : Int) + 1) = (fc (j + 1) : Nat) := by rw [fc]; push_cast; rfl
        have hf2 := fc_le (j + 1) (by omega)
        obtain ⟨f2, hf⟩ : ∃ f2, fc (j + 1) = f2 := ⟨_, rfl⟩
        have HF := Lib.hid hf
        rw [hf] at ef hf2
        generalize fc j = f1 at *
        clear hf
        go_wp2
        go_roundw
        case rel => exact ⟨j + 1, by omega, hlt, by rw [HF.out], by go_num, by first | rfl | trivial⟩
        case measure => simp [intOf]; omega
      · obtain rfl : j = N := by omega
        obtain ⟨F, hF⟩ : ∃ F, fc j = F := ⟨_, rfl⟩
        have HF := Lib.hid hF
        rw [hF] at hf1 hfj ⊢
        clear hF
        go_wp2_with fail
        go_loopw [7, 40] (fun wv iv wx => ∃ k : Nat, k ≤ R ∧ wv = .int .i64 (wn j k : Nat) ∧ iv = .int .i64 k ∧ wx = wr) (fun _ iv _ => R - (intOf iv).toNat)
        case atStart => exact ⟨0, by omega, rfl, rfl, rfl⟩
        case round =>
          obtain ⟨k, hk, rfl, rfl, rfl⟩ := hrel
          have hw1 := wn_le j r3 k (by omega)
          by_cases hlt2 : k < R
          · have hw2 := wn_le j r3 (k + 1) (by omega)
            have es := wn_step (n := j) (k := k) (by omega)
            obtain ⟨d, hd⟩ : ∃ d : Nat, j - k = d := ⟨_, rfl⟩
            have hd2 : (j : Int) - (k : Int) = (d : Int) := by omega
            have hd3 : d ≤ 6 := by omega
            rw [hd] at es
            obtain ⟨v2, hv⟩ : ∃ v2, wn j (k + 1) = v2 := ⟨_, rfl⟩
            have HV := Lib.hid hv
            rw [hv] at es hw2
            have hpr : (wn j k : Int) * (d : Int) = ((wn j k * d : Nat) : Int) := by push_cast; rfl
            have hpb : wn j k * d ≤ 120 := Nat.mul_le_mul hw1 hd3
            rw [hpr] at es
            generalize wn j k * d = pd at *
            generalize wn j k = v1 at *
            clear hv hd
            go_wp2
            go_roundw
            case rel => exact ⟨k + 1, hlt2, by rw [HV.out], by go_num, by first | rfl | trivial⟩
            case measure => simp [intOf]; omega
          · obtain rfl : k = R := by omega
            obtain ⟨v, hv⟩ : ∃ v, wn j k = v := ⟨_, rfl⟩
            have HV := Lib.hid hv
            rw [hv] at hw1 ⊢
            clear hv
            obtain ⟨⟨D, hD, hC⟩, hT⟩ := HI.out
            have ct := hT.cell (j := 0) (by simp)
            simp only [List.getElem?_cons_zero] at ct
            have HD := Lib.hid hD
            have HC := Lib.hid hC
            have HT := Lib.hid hT
            obtain ⟨wa, hwa⟩ : ∃ wa, wa = wr := ⟨_, rfl⟩
            subst hwa
            have hne : M ≠ M + 1 := by omega
            clear hD hC hT HI
            go_wp2_with (first
              | (at_range; refine wpList_range_own _ rfl _ 38 rfl 3 3 lawC Try.underlying38 _ M _ D rfl HD.out ?_; intro w0 hrg0 hg0 hs0))
            have HRG0 := Lib.hid hrg0
            have HT0 : Hid (Bs 38 w0 (M + 1) [.map (some M)]) := (hg0.block (M + 1) (Bs.lt HT.out) (by simp)).trans HT.out
            have HB0 : Hid (Below w.heap.size w w0) := HB3.out.grown hg0 (by have := HB3.out.size; exact this) (by simp)
            have hgt := HB3.out.size
            have hmt := Bs.lt HT.out
            clear hrg0 hg0 hs0 ct
            go_frame
            go_loopw [12] (fun _ wx => ∃ (left : Lit → Bool) (cnt : Nat), wx.ranges Try.prog 3 (plainElem Try.prog 3) M wa.heap.size (seenN k j (fc j)).length D left cnt ∧ (∀ kl, left kl = true → has D kl = true) ∧ Bs 38 wx (M + 1) [.map (some M)] ∧ Below w.heap.size w wx) (fun _ wx => wx.rangeLeft M wa.heap.size)
            case atStart => exact ⟨_, _, HRG0.out, fun _ h => h, HT0.out, HB0.out⟩
            case round =>
              obtain ⟨left, cnt, hrg, hle, hT1, hB1⟩ := hrel
              clear HRG0 HT0 HB0
              have HRG := Lib.hid hrg
              have HLE := Lib.hid hle
              have HT1 := Lib.hid hT1
              have HB1 := Lib.hid hB1
              clear hrg hle hT1 hB1
              go_wp2_with (first
                | (at_next; refine wpList_next_ranges_ii _ rfl _ rfl 3 3 .i64 .i64 lawC Try.underlying3 Try.underlying3 M wa.heap.size _ _ _ _ rfl HRG.out ?_ ?_))
              · intro _ _
                have ct := HT1.out.cell (j := 0) (by simp)
                simp only [List.getElem?_cons_zero] at ct
                have hlen : ∀ ty, (Builtin.len_ #[38] ty #[.map (some M)]).run Try.prog wr = .ok (.int .i64 (v : Nat)) wr := fun ty => by
                  rw [HRG.out.owns.len Try.underlying38 ty, HC.out.sz, even_len r1 r2 r3, HV.out]
                have tv : ((v : Int) == (v : Int)) = true := by simp
                clear HRG
                go_wp2
                go_ret
                exact ⟨rfl, HB1.out⟩
              · intro x c w5 cnt1 hwx hwc hlx hat hrg1 hlt1 hg1 hs1 hen
                obtain ⟨s, hs, ex⟩ := HC.out.keys _ (HLE.out _ hlx)
                injection ex with _ ex
                subst ex
                have hc := hat (.lit (.int .i64 0))
                rw [HC.out.look s] at hc
                injection hc with hc
                injection hc with _ hc
                have hprod : c * (v : Int) = (F : Int) := by
                  have h0 := even_at r1 r2 r3 hs
                  rw [HV.out] at h0
                  rw [← hc, ← HF.out]
                  exact_mod_cast h0
                have hcb : 0 ≤ c ∧ c ≤ 720 := by
                  have h1 := List.count_le_length (a := s) (l := seenN k j (fc j))
                  rw [seenN_len] at h1
                  have h2 := HF.out
                  omega
                have tf : ((F : Int) != (F : Int)) = false := by simp
                have HRG1 := Lib.hid hrg1
                have HT5 : Hid (Bs 38 w5 (M + 1) [.map (some M)]) := (hg1.block (M + 1) (Bs.lt HT1.out) (by intro e; injection e; omega)).trans HT1.out
                have HB5 : Hid (Below w.heap.size w w5) := HB1.out.grown hg1 HB1.out.size (by intro q hq; cases hq; omega)
                have HLT := Lib.hid hlt1
                have HL2 : Hid (∀ kl, (left kl && !kl.sameKey (.int .i64 (s : Int))) = true → has D kl = true) := fun kl h => HLE.out kl (by simp only [Bool.and_eq_true] at h; exact h.1)
                clear hrg1 hlt1 hg1 hs1 hat hc hlx hwx hwc hs
                go_wp2
                go_roundw
                case rel => exact ⟨_, cnt1, HRG1.out, HL2.out, HT5.out, HB5.out⟩
                case measure => rw [HRG1.out.left_eq, HRG.out.left_eq]; exact HLT.out
end Go.Proofs.Ytimeimagncechaa
