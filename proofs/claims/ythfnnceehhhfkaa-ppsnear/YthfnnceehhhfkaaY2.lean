/- pps.Take. -/
import Derived.Test.YthfnnceehhhfkaaY1
import Derived.Test.YthfnnceehhhfkaaOl
import Derived.Lib.JoinLaws
namespace Go.Proofs.Ythfnnceehhhfkaa
open Go.RowKit Go.Deep

theorem sumP_two (W : List Int) (m : Int) : (∃ e : Int, sumP W m = (0, e) ∧ e ≠ 0) ∨ ∃ n : Nat, m = n ∧ sumP W m = (sumW W, 0) ∧ WP W m ∧ 0 < sumW W := by
  rcases sumP_cases W m with ⟨h, _⟩ | ⟨h, _⟩ | ⟨h, h2, h3⟩
  · exact .inl ⟨2, h, by decide⟩
  · exact .inl ⟨3, h, by decide⟩
  · exact .inr ⟨m.toNat, by have := h2.2.2.1; omega, h, h2, h3⟩
theorem preM_succ {W : List Int} {k : Nat} (h : k < W.length) (m : Int) : pre W (k + 1) * m = pre W k * m + W.getD k 0 * m := by
  rw [pre_succ h, Int.add_mul]
theorem mul_bound {p m B : Int} (h0 : 0 ≤ p) (h1 : p ≤ B) (m0 : 0 ≤ m) (m1 : m ≤ 400) (hB : 0 ≤ B) : 0 ≤ p * m ∧ p * m ≤ B * 400 :=
  ⟨Int.mul_nonneg h0 m0, Int.le_trans (Int.mul_le_mul_of_nonneg_right h1 m0) (Int.mul_le_mul_of_nonneg_left m1 hB)⟩

set_option maxRecDepth 100000 in
set_option maxHeartbeats 2000000 in
theorem take_own (A : Option Addr) (ca : Nat) (W : List Int) (m s : Int) (w : World) (hW : IP w A ca W) :
    Calls Try.prog 10 #[.slice A W.length ca, .int .i64 m, .int .i64 s] w (OPost w (takeP W m s)) := by
  have hle := hW.le
  have hcap := hW.cap
  have C := Lib.hid (psum_any A ca W m w hW)
  unfold ptup at C
  rcases sumP_two W m with ⟨er, h, he⟩ | ⟨n, rfl, h, hP, h0⟩
  · rw [takeP_err h he]
    rw [h] at C
    have t1 : (er != 0) = true := ineq_yes he
    clear hW h he
    go_enter Try.func10, Try.ntmps10
    go_wp2_with fail
    refine C.out.mono ?_
    rintro e w1 ⟨rfl, rfl⟩
    go_wp2
    go_ret2
    exact opost_none (Below.refl _ _)
  · rw [h] at C
    have hsb := hP.sum
    by_cases hs : 0 ≤ s ∧ s < sumW W
    · rw [takeP_in h hs.1 hs.2]
      have HW := Lib.hid hW
      have HP := Lib.hid hP
      have h4 := hP.1
      have hn := hP.2.2
      have t0 : decide (s < 0) = false := by rw [decide_eq_false_iff_not]; omega
      have t2 : decide (sumW W ≤ s) = false := by rw [decide_eq_false_iff_not]; omega
      obtain ⟨hs0, hs1⟩ := hs
      obtain ⟨S, hS⟩ : ∃ S, sumW W = S := ⟨_, rfl⟩
      have HS := Lib.hid hS
      rw [hS] at C hsb t2 h0 hs1
      have hmk := run_make_room (P := Try.prog) 22 3 (.int .i64 0) 8 Try.underlying22 info_int rfl .i64 .i64 n (by omega) (by omega)
      have HO : Hid (OI (w.alloc (.cells (madeCells #[.int .i64 0] n) 3)) w.heap.size (.slice (some ⟨w.heap.size, 0, none⟩) 0 n) ((tkL W n s).take 0)) := World.ownsRow_made w _ n (Nat.le_refl _) (by unfold maxLen; omega) (by simp [madeCells])
      have HB : Hid (Below w.heap.size w (w.alloc (.cells (madeCells #[.int .i64 0] n) 3))) := (Below.refl _ _).alloc (Nat.le_refl _) _
      clear hW h hP hS
      go_enter Try.func10, Try.ntmps10
      go_wp2_with fail
      refine C.out.mono ?_
      rintro e w1 ⟨rfl, rfl⟩
      clear C
      go_wp2_with fail
      clear hmk t0 t2
      go_loopw [10, 11, 12, 36] (fun ov nv ev iv wr => ∃ k t : Nat, k ≤ W.length ∧ t ≤ n ∧ iv = .int .i64 k ∧ nv = .int .i64 (stp s S t) ∧ ev = .int .i64 (pre W k * n) ∧ pre W k * n ≤ stp s S t ∧ OI wr w.heap.size ov ((tkL W n s).take t) ∧ Below w.heap.size w wr) (fun _ _ _ iv _ => W.length - (intOf iv).toNat)
      case atStart => exact ⟨0, 0, by omega, by omega, rfl, by rw [stp_zero], by rw [pre_zero]; simp, by rw [pre_zero, stp_zero]; omega, HO.out, HB.out⟩
      case round =>
        clear HO HB
        obtain ⟨k, t, hk, ht, rfl, rfl, rfl, hpt, hO, hB⟩ := hrel
        have HO := Lib.hid hO
        have HB := Lib.hid hB
        clear hO hB
        by_cases hlt : k < W.length
        · obtain ⟨b, off, rfl, _, hcell⟩ := (HW.out.later HB.out).il.at (by omega)
          have hci := hcell k hlt
          have hx := HP.out.at k
          have hp := HP.out.bound hk
          have HE := Lib.hid (preM_succ hlt (n : Int))
          have HPT := Lib.hid hpt
          obtain ⟨hp1, hp2⟩ := mul_bound (B := 419430400) hp.1 (by omega) (Int.le_trans (by decide) hn.1) hn.2 (by omega)
          obtain ⟨hx1, hx2⟩ := mul_bound (B := 1048576) hx.1 hx.2 (Int.le_trans (by decide) hn.1) hn.2 (by omega)
          clear hcell hpt
          obtain ⟨y, hy⟩ : ∃ y, W.getD k 0 * (n : Int) = y := ⟨_, rfl⟩
          obtain ⟨p, hpp⟩ : ∃ p, pre W k * (n : Int) = p := ⟨_, rfl⟩
          obtain ⟨q, hqq⟩ : ∃ q, pre W (k + 1) * (n : Int) = q := ⟨_, rfl⟩
          rw [hy] at hx1 hx2
          rw [hpp] at hp1 hp2
          rw [hy, hpp, hqq] at HE
          have hq : q = p + y := HE.out
          have HQ := Lib.hid hqq
          have HPP := Lib.hid hpp
          have hqS : q ≤ S * n := by
            rw [← hqq, ← HS.out]
            have := preM_mono HP.out (i := k + 1) (k := W.length) (by omega) (Nat.le_refl _)
            rw [pre_all] at this
            exact this
          obtain ⟨M, hM⟩ : ∃ M, S * (n : Int) = M := ⟨_, rfl⟩
          have HM := Lib.hid hM
          have hMb : 0 ≤ M ∧ M ≤ 419430400 * 400 := by
            rw [← hM]; exact mul_bound hsb.1 hsb.2 (Int.le_trans (by decide) hn.1) hn.2 (by omega)
          rw [hM] at hqS
          have hKI : (k : Int) < (W.length : Int) := by omega
          clear hpp hqq HE hM
          rw [HPP.out]
          generalize W.getD k 0 = x at *
          obtain ⟨wa, hwa⟩ : ∃ wa, wa = wr := ⟨_, rfl⟩
          subst hwa
          go_wp2_with fail
          clear hci
          go_loopw [10, 11] (fun ov nv wr => ∃ t : Nat, t ≤ n ∧ nv = .int .i64 (stp s S t) ∧ p ≤ stp s S t ∧ OI wr w.heap.size ov ((tkL W n s).take t) ∧ Below w.heap.size w wr) (fun _ nv _ => (M - intOf nv).toNat)
          case atStart => exact ⟨t, ht, rfl, by have := HPT.out; rw [HPP.out] at this; exact this, HO.out, HB.out⟩
          case round =>
            clear HO HB HPT
            obtain ⟨t, ht, rfl, hpt, hO, hB⟩ := hrel
            have HO := Lib.hid hO
            have HB := Lib.hid hB
            have hst := stp_succ s S t
            have hnn := stp_nonneg hs0 hsb.1 t
            clear hO hB
            by_cases hlq : stp s S t < q
            · have htn : t < n := lt_of_stp hs0 hsb.1 (by rw [HM.out]; omega)
              have HT := Lib.hid (tkL_take (W := W) (s := s) htn)
              rw [HS.out, ow_in HP.out hlt (by rw [HPP.out]; exact hpt) (by rw [HQ.out]; exact hlq)] at HT
              have htl : ((tkL W n s).take t).length = t := by rw [List.length_take, tkL_len]; omega
              have htb : ((tkL W n s).take t).length < 17592186044416 := by omega
              have HL := Lib.hid htl
              clear htl
              have HST := Lib.hid hst
              obtain ⟨z, hz⟩ : ∃ z, stp s S t = z := ⟨_, rfl⟩
              rw [hz] at hpt hnn hlq HST ⊢
              have HZ := Lib.hid hz
              clear hst hz
              go_wp2_with (at_builtin; refine wpList_push rfl _ _ rfl w.heap.size u10 ((tkL W n s).take t) (k : Int) rfl HO.out rfl htb HB.out.size HB.out ?_)
              intro g cap w2 ho2 hB2 _
              have HO2 := Lib.hid ho2
              rw [HT.out] at HO2
              have HB2 := Lib.hid hB2
              clear HO HB ho2 hB2
              go_wp2
              go_roundw
              case rel => exact ⟨t + 1, by omega, by rw [HST.out], by rw [HST.out]; omega, HO2.out, HB2.out⟩
              case measure => simp [intOf]; omega
            · go_wp2
              go_roundw
              case rel => exact ⟨k + 1, t, by omega, ht, by go_num, rfl, by rw [HQ.out, hq], by rw [HQ.out]; omega, HO.out, HB.out⟩
              case measure => simp [intOf]; omega
        · obtain rfl : k = W.length := by omega
          rw [pre_all, HS.out] at hpt
          have htn : t = n := by
            by_cases e : t < n
            · have := stp_lt hs1 hsb.1 e; omega
            · omega
          subst htn
          have htl : (tkL W t s).take t = tkL W t s := by
            have := List.take_length (l := tkL W t s)
            rw [tkL_len] at this; exact this
          rw [htl] at HO
          go_wp2
          go_ret2
          exact opost_oi HO.out HB.out
    · rw [takeP_out h hs]
      have hs2 : (s < 0 ∧ decide (s < 0) = true) ∨ (sumW W ≤ s ∧ decide (s < 0) = false ∧ decide (sumW W ≤ s) = true) := by
        by_cases h : s < 0
        · exact .inl ⟨h, decide_eq_true h⟩
        · exact .inr ⟨by omega, decide_eq_false h, decide_eq_true (by omega)⟩
      clear hW h hs
      rcases hs2 with ⟨h, t1⟩ | ⟨h, t1, t2⟩
      all_goals
        go_enter Try.func10, Try.ntmps10
        go_wp2_with fail
        refine C.out.mono ?_
        rintro e w1 ⟨rfl, rfl⟩
        go_wp2
        go_ret2
        exact opost_none (Below.refl _ _)
theorem take_any (A : Option Addr) (ca : Nat) (W : List Int) (m s : Int) (w : World) (hW : IP w A ca W) :
    Calls Try.prog 10 #[.slice A W.length ca, .int .i64 m, .int .i64 s] w (LPost w (takeP W m s)) := (take_own A ca W m s w hW).mono fun _ _ h => h.lp
end Go.Proofs.Ythfnnceehhhfkaa
