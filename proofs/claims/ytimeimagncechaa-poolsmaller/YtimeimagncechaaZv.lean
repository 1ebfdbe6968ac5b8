/- lotdrawerkeep.PoolSmaller: the walk. -/
import Derived.Test.YtimeimagncechaaZt
import Derived.Test.YtimeimagncechaaZu
namespace Go.Proofs.Ytimeimagncechaa
open Go.RowKit Go.Deep Go.Maps

theorem enters_small (args : Array Value) (w : World) : (callFunc 23 args).run Try.prog w = .ok (.enter 23 args) w := enters_of Try.func23 (by kernel_rfl) rfl args w
theorem rowsS (room less n : Nat) (h0 : 1 ≤ less) (h1 : less < room) (h2 : room ≤ n) (h3 : n ≤ 5) (M f o l b t : Nat) (V : Option Addr) (cv : Nat) (w : World)
    (hI : SmI less (outsN less (room - less)) (dnN less (room - less)) M f o l b t V cv [] w) :
    Calls Try.prog 21 #[.int .i64 room, .int .i64 n, .func (.func 23) #[] #[.pointer (some ⟨o, 0, none⟩), .pointer (some ⟨l, 0, none⟩), .pointer (some ⟨b, 0, none⟩), .pointer (some ⟨f, 0, none⟩), .pointer (some ⟨t, 0, none⟩)]] w
      fun e w' => e = .returned (.bool true) ∧ SmI less (outsN less (room - less)) (dnN less (room - less)) M f o l b t V cv (seenS room less n (fc n)) w' ∧ Kp (PS M f) w w' := by
  refine rows_any room n _ _ (PS M f) (fun k w' => SmI less (outsN less (room - less)) (dnN less (room - less)) M f o l b t V cv (seenS room less n k) w') w (by omega) h2 (by omega) enters_small (fun k hk => ?_) hI (fun k a b h hb => h.later hb) ?_
  · rcases hk with rfl | rfl
    · exact hI.m.lt
    · exact Bs.lt hI.ff
  · intro k A ca a hk hI hIP
    have hf := fc_le n (by omega)
    have ho := outs_le room (by omega) less (by omega)
    have hm : k * outsN less (room - less) ≤ 720 * 120 := Nat.mul_le_mul (by omega) ho.2
    exact smallLook_any room less n k h0 h1 h2 h3 A ca M f o l b t V cv (seenS room less n k) a hI (by rw [seenS_len]; omega) hIP
def oppN (room : Nat) : Nat → Nat
  | 0 => 1
  | j + 1 => oppN room j * (room - j)
theorem opp_end : ∀ room, room ≤ 5 → ∀ less, less ≤ room → oppN room (room - less) = outsN less (room - less) := by decide +kernel
theorem opp_le : ∀ room, room ≤ 5 → ∀ j, j ≤ room → 1 ≤ oppN room j ∧ oppN room j ≤ 120 := by decide +kernel
theorem dnN_at {less : Nat} : ∀ {c j : Nat}, j < c → (dnN less c).getD j 0 = less + c - j
  | c + 1, 0, _ => by simp [dnN]; omega
  | c + 1, j + 1, h => by
    rw [dnN, List.getD_cons_succ, dnN_at (by omega)]
    omega

set_option maxRecDepth 100000 in
set_option maxHeartbeats 8000000 in
theorem poolSmaller_walk (room less n : Int) (w : World) :
    Calls Try.prog 6 #[.int .i64 room, .int .i64 less, .int .i64 n] w fun e w' => e = .returned (.bool true) ∧ Below w.heap.size w w' := by
  have b0 : Below w.heap.size w (w.alloc (.cells #[.int .i64 less] 3)) := (Below.refl _ _).alloc (Nat.le_refl _) _
  have CA := Lib.hid (alive6_any (w.alloc (.cells #[.int .i64 less] 3)))
  have HL0 : Hid (Bs 3 (w.alloc (.cells #[.int .i64 less] 3)) w.heap.size [.int .i64 less]) := heap_alloc_new w _
  have HB0 := Lib.hid b0
  have hmm := @run_makeMap Try.prog
  have hmf : ∀ (fn : Fn) (first cap : Array Value) (w : World), (Instr.makeFunc fn first cap).run Try.prog w = .ok (.func fn first cap) w := fun _ _ _ _ => rfl
  clear b0
  go_enter Try.func6, Try.ntmps6
  go_wp2_with fail
  refine CA.out.mono ?_
  rintro e w1 ⟨rfl, hb1⟩
  have HB := Lib.hid (HB0.out.trans (hb1.mono HB0.out.size))
  have HL := Lib.hid (HL0.out.below hb1 (Bs.lt HL0.out))
  have cl := cell1 HL.out
  have hlt0 : w.heap.size < w1.heap.size := Bs.lt HL.out
  clear CA hb1 HL0 HB0
  rcases (show less < 1 ∨ (1 ≤ less ∧ room ≤ less) ∨ (1 ≤ less ∧ less < room ∧ n < room) ∨ (1 ≤ less ∧ less < room ∧ room ≤ n ∧ 5 < n) ∨ (1 ≤ less ∧ less < room ∧ room ≤ n ∧ n ≤ 5) by omega) with h | ⟨h, h2⟩ | ⟨h, h2, h3⟩ | ⟨h, h2, h3, h4⟩ | ⟨h, h2, h3, h4⟩
  · go_wp2
    go_ret
    exact ⟨rfl, HB.out⟩
  · go_wp2
    go_ret
    exact ⟨rfl, HB.out⟩
  · go_wp2
    go_ret
    exact ⟨rfl, HB.out⟩
  · go_wp2
    go_ret
    exact ⟨rfl, HB.out⟩
  · obtain ⟨R, rfl⟩ : ∃ R : Nat, room = R := ⟨room.toNat, by omega⟩
    obtain ⟨N, rfl⟩ : ∃ N : Nat, n = N := ⟨n.toNat, by omega⟩
    obtain ⟨L, rfl⟩ : ∃ L : Nat, less = L := ⟨less.toNat, by omega⟩
    have r0 : 1 ≤ L := by omega
    have r1 : L < R := by omega
    have r2 : R ≤ N := by omega
    have r3 : N ≤ 5 := by omega
    have u1 : decide ((L : Int) < 1) = false := decide_eq_false (by omega)
    have u2 : decide ((R : Int) ≤ (L : Int)) = false := decide_eq_false (by omega)
    have u2' : decide (R ≤ L) = false := decide_eq_false (by omega)
    have u3 : decide ((N : Int) < (R : Int)) = false := decide_eq_false (by omega)
    have u3' : decide (N < R) = false := decide_eq_false (by omega)
    have u4 : decide ((5 : Int) < (N : Int)) = false := decide_eq_false (by omega)
    have b1 : Below w1.heap.size w1 ((w1.alloc (.cells #[.slice none 0 0] 22)).alloc (.cells #[.int .i64 1] 3)) := ((Below.refl _ _).alloc (Nat.le_refl _) _).alloc (by simp) _
    have HBs : Hid (Bs 22 ((w1.alloc (.cells #[.slice none 0 0] 22)).alloc (.cells #[.int .i64 1] 3)) w1.heap.size [.slice none 0 0]) := heap_alloc2_old w1 _ _
    have HOs : Hid (Bs 3 ((w1.alloc (.cells #[.slice none 0 0] 22)).alloc (.cells #[.int .i64 1] 3)) (w1.heap.size + 1) [.int .i64 1]) := heap_alloc2_new w1 _ _
    have HB1 := Lib.hid b1
    clear b1
    go_wp2_with fail
    go_loopw [9] (fun kv wr => ∃ (j : Nat) (v : Value), j ≤ R - L ∧ kv = .int .i64 ((R : Int) - (j : Int)) ∧ Bs 22 wr w1.heap.size [v] ∧ OI wr (w1.heap.size + 2) v (inN ((dnN L (R - L)).take j)) ∧ Bs 3 wr (w1.heap.size + 1) [.int .i64 (oppN R j : Nat)] ∧ Below w1.heap.size w1 wr) (fun kv _ => (intOf kv).toNat)
    case atStart => exact ⟨0, _, by omega, by go_num, HBs.out, OI.nil _ _, HOs.out, HB1.out⟩
    case round =>
      obtain ⟨j, v, hj, rfl, hb, hO, ho, hB⟩ := hrel
      clear HBs HOs HB1 cl
      obtain ⟨V, cv, rfl⟩ := hO.shape
      have HBb := Lib.hid hb
      have HO := Lib.hid hO
      have HOo := Lib.hid ho
      have HBr := Lib.hid hB
      have cl := cell1 (HL.out.below hB hlt0)
      have cb := cell1 hb
      have co := cell1 ho
      have fb := Bs.frozen hb 0
      have fo := Bs.frozen ho 0
      have hsz : w1.heap.size + 2 ≤ wr.heap.size := Bs.lt ho
      have hop := opp_le R (by omega) j (by omega)
      have htl : ((dnN L (R - L)).take j).length = j := by rw [List.length_take, dnN_len]; omega
      clear hb hO ho hB
      by_cases hlt : j < R - L
      · have hkk : ∃ kk : Nat, (R : Int) - (j : Int) = (kk : Int) ∧ kk = R - j ∧ L < kk ∧ kk ≤ 5 := ⟨R - j, by omega, rfl, by omega, by omega⟩
        obtain ⟨kk, ek, ek2, ek3, ek4⟩ := hkk
        rw [ek] at *
        have hlp : Hid ((inN ((dnN L (R - L)).take j)).length < 17592186044416) := by show _ < _; rw [inN_len, htl]; omega
        have ES : Hid (inN ((dnN L (R - L)).take (j + 1)) = inN ((dnN L (R - L)).take j) ++ [(kk : Int)]) := by
          show _ = _
          rw [take_snocN (by rw [dnN_len]; exact hlt), dnN_at hlt, inN_append, show L + (R - L) - j = kk by omega]
          rfl
        have eo : ((oppN R j : Nat) : Int) * (kk : Int) = ((oppN R (j + 1) : Nat) : Int) := by
          rw [oppN, ← ek2]; push_cast; rfl
        have hop2 := opp_le R (by omega) (j + 1) (by omega)
        obtain ⟨f2, hf2⟩ : ∃ f2, oppN R (j + 1) = f2 := ⟨_, rfl⟩
        have HF2 := Lib.hid hf2
        rw [hf2] at eo hop2
        generalize oppN R j = f1 at *
        generalize inN ((dnN L (R - L)).take j) = zs at *
        have hj1 : j + 1 ≤ R - L := hlt
        have ek5 : (R : Int) - ((j : Int) + 1) = (kk : Int) - 1 := by omega
        have EK := Lib.hid ek
        clear hf2 htl ek2 ek
        go_wp2_with (at_builtin; refine wpList_push rfl _ _ rfl (w1.heap.size + 2) (.slice V zs.length cv) zs (kk : Int) rfl HO.out rfl hlp.out hsz (Below.refl _ wr) ?_)
        intro g cap w2 ho2 hB2 _
        have hb3 := HBb.out.below hB2 (by omega)
        have ho3 := HOo.out.below hB2 (by omega)
        have fb2 := Bs.frozen hb3 0
        have cb2 := cell1 hb3
        have fo2 := Bs.frozen ho3 0
        have co2 := cell1 ho3
        have hne : w1.heap.size ≠ w1.heap.size + 1 := by omega
        have hb4 : Bs 22 (w2.setCell ⟨w1.heap.size, 0, none⟩ (.slice (some ⟨g, 0, none⟩) (zs.length + 1) cap)) w1.heap.size [.slice (some ⟨g, 0, none⟩) (zs.length + 1) cap] := hb3.set 0 _
        have ho4 : Bs 3 (w2.setCell ⟨w1.heap.size, 0, none⟩ (.slice (some ⟨g, 0, none⟩) (zs.length + 1) cap)) (w1.heap.size + 1) [.int .i64 (f1 : Nat)] := (Below.heap_setCell _ _ _ _ (by simp)).trans ho3
        have co4 := cell1 ho4
        have fo4 := Bs.frozen ho4 0
        have HB5 : Hid (Bs 22 ((w2.setCell ⟨w1.heap.size, 0, none⟩ (.slice (some ⟨g, 0, none⟩) (zs.length + 1) cap)).setCell ⟨w1.heap.size + 1, 0, none⟩ (.int .i64 (f2 : Nat))) w1.heap.size [.slice (some ⟨g, 0, none⟩) (zs.length + 1) cap]) := (Below.heap_setCell _ _ _ _ (by simp)).trans hb4
        have HO5 : Hid (Bs 3 ((w2.setCell ⟨w1.heap.size, 0, none⟩ (.slice (some ⟨g, 0, none⟩) (zs.length + 1) cap)).setCell ⟨w1.heap.size + 1, 0, none⟩ (.int .i64 (f2 : Nat))) (w1.heap.size + 1) [.int .i64 (f2 : Nat)]) := ho4.set 0 _
        have HV5 : Hid (OI ((w2.setCell ⟨w1.heap.size, 0, none⟩ (.slice (some ⟨g, 0, none⟩) (zs.length + 1) cap)).setCell ⟨w1.heap.size + 1, 0, none⟩ (.int .i64 (f2 : Nat))) (w1.heap.size + 2) (.slice (some ⟨g, 0, none⟩) (zs.length + 1) cap) (zs ++ [(kk : Int)])) := by
          have hg : ∀ q, (Value.slice (some ⟨g, 0, none⟩) (zs.length + 1) cap).ownBlock = some q → w1.heap.size + 2 ≤ q := fun q hq => (World.ownsRow.lt ho2 q hq).1
          refine ownsRow_setCell_other (ownsRow_setCell_other ho2 ?_ _) ?_ _
          · intro e; have h5 : w1.heap.size + 2 ≤ w1.heap.size := hg _ e; omega
          · intro e; have h5 : w1.heap.size + 2 ≤ w1.heap.size + 1 := hg _ e; omega
        have HBl : Hid (Below w1.heap.size w1 ((w2.setCell ⟨w1.heap.size, 0, none⟩ (.slice (some ⟨g, 0, none⟩) (zs.length + 1) cap)).setCell ⟨w1.heap.size + 1, 0, none⟩ (.int .i64 (f2 : Nat)))) := ((HBr.out.trans (hB2.mono (by omega))).setCell (p := ⟨w1.heap.size, 0, none⟩) (Nat.le_refl _) _).setCell (p := ⟨w1.heap.size + 1, 0, none⟩) (by simp) _
        clear ho2 hB2 hb3 ho3 hb4 ho4 HBb HO HOo HBr cl cb co fb fo
        go_wp2
        go_roundw
        case rel => exact ⟨j + 1, _, hj1, by go_num, HB5.out, by rw [ES.out]; exact HV5.out, by rw [HF2.out]; exact HO5.out, HBl.out⟩
        case measure => simp [intOf]; omega
      · obtain rfl : j = R - L := by omega
        have e1 : (dnN L (R - L)).take (R - L) = dnN L (R - L) := List.take_of_length_le (by rw [dnN_len]; exact Nat.le_refl _)
        rw [e1] at HO HBb
        rw [opp_end R (by omega) L (by omega)] at HOo
        have ew : (inN (dnN L (R - L))).length = (dnN L (R - L)).length := inN_len _
        rw [ew] at HO HBb
        have ek : (R : Int) - ((R - L : Nat) : Int) = (L : Int) := by omega
        obtain ⟨wa, hwa⟩ : ∃ wa, wa = wr := ⟨_, rfl⟩
        subst hwa
        have bA : Below wa.heap.size wa (((wa.alloc (.map #[] 0)).alloc (.cells #[.map (some wa.heap.size)] 38)).alloc (.cells #[.bool true] 4)) := (((Below.refl _ _).alloc (Nat.le_refl _) _).alloc (by simp) _).alloc (by simp; omega) _
        have hI : SmI L (outsN L (R - L)) (dnN L (R - L)) wa.heap.size (wa.heap.size + 2) (w1.heap.size + 1) w.heap.size w1.heap.size (wa.heap.size + 1) V cv [] (((wa.alloc (.map #[] 0)).alloc (.cells #[.map (some wa.heap.size)] 38)).alloc (.cells #[.bool true] 4)) := by
          have t1 : Bs 38 ((wa.alloc (.map #[] 0)).alloc (.cells #[.map (some wa.heap.size)] 38)) (wa.heap.size + 1) [.map (some wa.heap.size)] := heap_alloc2_new wa _ _
          have t2 : Bs 4 (((wa.alloc (.map #[] 0)).alloc (.cells #[.map (some wa.heap.size)] 38)).alloc (.cells #[.bool true] 4)) ((wa.alloc (.map #[] 0)).alloc (.cells #[.map (some wa.heap.size)] 38)).heap.size [.bool true] := heap_alloc_new _ _
          refine ⟨((CntM.made wa).of_block (heap_alloc_old _ _ (by simp))).of_block (heap_alloc_old _ _ (by simp; omega)), (heap_alloc_old _ _ (Bs.lt t1)).trans t1, by simpa using t2, HOo.out.below bA (Bs.lt HOo.out), (HL.out.below HBr.out hlt0).below bA (Nat.lt_of_lt_of_le hlt0 HBr.out.size), HBb.out.below bA (Bs.lt HBb.out), (HO.out.later bA).lower (Nat.zero_le _)⟩
        have CR := Lib.hid (rowsS R L N r0 r1 r2 r3 _ _ _ _ _ _ V cv _ hI)
        have HBx : Hid (Below w.heap.size w (((wa.alloc (.map #[] 0)).alloc (.cells #[.map (some wa.heap.size)] 38)).alloc (.cells #[.bool true] 4))) := (HB.out.trans (HBr.out.mono HB.out.size)).trans (bA.mono (Nat.le_trans HB.out.size HBr.out.size))
        have hM0 : w.heap.size ≤ wa.heap.size := Nat.le_trans HB.out.size HBr.out.size
        rw [ek]
        clear bA hI e1 ew ek cb co fb fo hop htl HBb HO HOo HB
        go_wp2_with fail
        refine CR.out.mono ?_
        rintro e w2 ⟨rfl, hI, hK⟩
        have HB3 : Hid (Below w.heap.size w w2) := Kp.below HBx.out hK (fun k hk => by rcases hk with rfl | rfl <;> omega)
        obtain ⟨D, hD, hC⟩ := hI.m
        have HD := Lib.hid hD
        have HC := Lib.hid hC
        have HT := Lib.hid hI.tt
        have HF := Lib.hid hI.ff
        have HLl := Lib.hid hI.ll
        have ct := cell1 hI.tt
        clear hI hK CR HBx hD hC cl HBr
        have hM1 : wa.heap.size ≠ wa.heap.size + 1 := by omega
        generalize wa.heap.size = M at *
        obtain ⟨q, hq⟩ : ∃ q, uK R L * cK R L N = q := ⟨_, rfl⟩
        have HQ : Hid (∀ s, s ∈ seenS R L N (fc N) → (seenS R L N (fc N)).count s = q) := fun s hs => by rw [small_at r0 r1 r2 r3 hs, hq]
        have HSZ : Hid ((dd (seenS R L N (fc N))).length = wn N L) := small_len r0 r1 r2 r3
        clear hq
        generalize seenS R L N (fc N) = SS at *
        go_wp2_with (first
          | (at_range; refine wpList_range_own _ rfl _ 38 rfl 3 3 lawC Try.underlying38 _ M _ D rfl HD.out ?_; intro w0 hrg0 hg0 hs0))
        have HRG0 := Lib.hid hrg0
        have keep : ∀ {T g : Nat} {vs : List Value}, Bs T w2 g vs → Bs T w0 g vs := fun hb => (hg0.block _ (Bs.lt hb) (by simp)).trans hb
        have HT0 := Lib.hid (keep HT.out)
        have HF0 := Lib.hid (keep HF.out)
        have HL0 := Lib.hid (keep HLl.out)
        have HB0 : Hid (Below w.heap.size w w0) := HB3.out.grown hg0 HB3.out.size (by simp)
        have hgt := HB3.out.size
        have l1 := Bs.lt HT.out
        have l2 := Bs.lt HF.out
        have l3 := Bs.lt HLl.out
        clear hrg0 hg0 hs0 ct keep HT HF HLl HB3
        go_frame
        generalize w2.heap.size = ra at *
        go_loopw [13, 15] (fun ov _ wx => ∃ (left : Lit → Bool) (cnt : Nat) (one : Int), ov = .int .i64 one ∧ (one = -1 ∨ one = (q : Int)) ∧ wx.ranges Try.prog 3 (plainElem Try.prog 3) M ra SS.length D left cnt ∧ (∀ kl, left kl = true → has D kl = true) ∧ Bs 38 wx (M + 1) [.map (some M)] ∧ Bs 4 wx (M + 2) [.bool true] ∧ Bs 3 wx w.heap.size [.int .i64 (L : Int)] ∧ Below w.heap.size w wx) (fun _ _ wx => wx.rangeLeft M ra)
        case atStart => exact ⟨_, _, -1, rfl, .inl rfl, HRG0.out, fun _ h => h, HT0.out, HF0.out, HL0.out, HB0.out⟩
        case round =>
          obtain ⟨left, cnt, one, rfl, hone, hrg, hle, hT, hF, hL, hB⟩ := hrel
          clear HRG0 HT0 HF0 HL0 HB0
          have HRG := Lib.hid hrg
          have HLE := Lib.hid hle
          have HT := Lib.hid hT
          have HF := Lib.hid hF
          have HLl := Lib.hid hL
          have HB := Lib.hid hB
          have HONE := Lib.hid hone
          clear hrg hle hT hF hL hB hone
          go_wp2_with (first
            | (at_next; refine wpList_next_ranges_ii _ rfl _ rfl 3 3 .i64 .i64 lawC Try.underlying3 Try.underlying3 M ra _ _ _ _ rfl HRG.out ?_ ?_))
          · intro _ _
            have cl := cell1 HLl.out
            have HLN : Hid (∀ ty, (Builtin.len_ #[38] ty #[.map (some M)]).run Try.prog wr = .ok (.int .i64 (wn N L : Nat)) wr) := fun ty => by
              rw [HRG.out.owns.len Try.underlying38 ty, HC.out.sz, HSZ.out]
            obtain ⟨wa', hwa⟩ : ∃ wa', wa' = wr := ⟨_, rfl⟩
            subst hwa
            clear HRG
            go_wp2_with fail
            go_loopw [16, 69] (fun wv iv wx => ∃ k : Nat, k ≤ L ∧ wv = .int .i64 (wn N k : Nat) ∧ iv = .int .i64 k ∧ wx = wa') (fun _ iv _ => L - (intOf iv).toNat)
            case atStart => exact ⟨0, by omega, rfl, rfl, rfl⟩
            case round =>
              obtain ⟨k, hk, rfl, rfl, rfl⟩ := hrel
              have hw1 := wn_le N (by omega) k (by omega)
              by_cases hlt2 : k < L
              · have hw2 := wn_le N (by omega) (k + 1) (by omega)
                have es := wn_step (n := N) (k := k) (by omega)
                obtain ⟨d, hd⟩ : ∃ d : Nat, N - k = d := ⟨_, rfl⟩
                have hd2 : (N : Int) - (k : Int) = (d : Int) := by omega
                have hd3 : d ≤ 6 := by omega
                rw [hd] at es
                obtain ⟨v2, hv⟩ : ∃ v2, wn N (k + 1) = v2 := ⟨_, rfl⟩
                have HV := Lib.hid hv
                rw [hv] at es hw2
                have hpr : (wn N k : Int) * (d : Int) = ((wn N k * d : Nat) : Int) := by push_cast; rfl
                have hpb : wn N k * d ≤ 120 := Nat.mul_le_mul hw1 hd3
                rw [hpr] at es
                generalize wn N k * d = pd at *
                generalize wn N k = v1 at *
                clear hv hd
                go_wp2
                go_roundw
                case rel => exact ⟨k + 1, hlt2, by rw [HV.out], by go_num, by first | rfl | trivial⟩
                case measure => simp [intOf]; omega
              · obtain rfl : k = L := by omega
                have hlen := HLN.out
                have ct := cell1 HT.out
                have cf := cell1 HF.out
                obtain ⟨v, hv⟩ : ∃ v, wn N k = v := ⟨_, rfl⟩
                rw [hv] at hlen hw1 ⊢
                have tv : ((v : Int) == (v : Int)) = true := by simp
                clear hv HLN HSZ
                go_wp2
                go_ret
                exact ⟨rfl, HB.out⟩
          · intro x c w5 cnt1 hwx hwc hlx hat hrg1 hlt1 hg1 hs1 hen
            obtain ⟨s, hs, ex⟩ := HC.out.keys _ (HLE.out _ hlx)
            injection ex with _ ex
            subst ex
            have hc := hat (.lit (.int .i64 0))
            rw [HC.out.look s, HQ.out s hs] at hc
            injection hc with hc
            injection hc with _ hc
            subst hc
            have keep : ∀ {T g : Nat} {vs : List Value}, g ≠ ra → Bs T wr g vs → Bs T w5 g vs := fun hn hb => (hg1.block _ (Bs.lt hb) (fun e => hn (by injection e))).trans hb
            have HRG1 := Lib.hid hrg1
            have HT5 := Lib.hid (keep (by omega) HT.out)
            have HF5 := Lib.hid (keep (by omega) HF.out)
            have HL5 := Lib.hid (keep (by omega) HLl.out)
            have HB5 : Hid (Below w.heap.size w w5) := HB.out.grown hg1 HB.out.size (by intro k hk; cases hk; omega)
            have HLT := Lib.hid hlt1
            have HL2 : Hid (∀ kl, (left kl && !kl.sameKey (.int .i64 (s : Int))) = true → has D kl = true) := fun kl h => HLE.out kl (by simp only [Bool.and_eq_true] at h; exact h.1)
            have tq : ((q : Int) != (q : Int)) = false := by simp
            clear hrg1 hlt1 hg1 hs1 hat hlx hwx hwc hs keep
            rcases HONE.out with rfl | rfl
            all_goals
              clear HONE
              go_wp2
              go_roundw
              case rel => exact ⟨_, cnt1, (q : Int), rfl, .inr rfl, HRG1.out, HL2.out, HT5.out, HF5.out, HL5.out, HB5.out⟩
              case measure => rw [HRG1.out.left_eq, HRG.out.left_eq]; exact HLT.out
end Go.Proofs.Ytimeimagncechaa
