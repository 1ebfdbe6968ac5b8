/- lotdrawerlaw.AliasMakes: the walk. -/
import Derived.Test.YtjhcbjpbmbjgoaaHu
namespace Go.Proofs.Ytjhcbjpbmbjgoaa
open Go.RowKit Go.Deep

theorem drawA_out {S : AT} {p v : Int} (h : p < 0 ∨ (S.length : Int) ≤ p) : drawA S p v = (0, 3) := if_neg (by omega)
theorem drawA_lo {S : AT} {i : Nat} {v : Int} (h : i < S.length) (h2 : v < lev S i) : drawA S i v = ((i : Int), 0) := by
  unfold drawA; rw [if_pos (by omega), if_pos (by rw [Int.toNat_natCast]; exact h2)]
theorem drawA_hi {S : AT} {i : Nat} {v : Int} (h : i < S.length) (h2 : ¬ v < lev S i) : drawA S i v = (too S i, 0) := by
  unfold drawA; rw [if_pos (by omega), if_neg (by rw [Int.toNat_natCast]; exact h2), Int.toNat_natCast]

set_option maxRecDepth 100000 in
set_option maxHeartbeats 4000000 in
theorem aliasMakes_walk (A : Option Addr) (ca : Nat) (W : List Int) (L : Option Addr) (cl : Nat) (l : AT) (p v : Int) (w : World) (hW : IP w A ca W) (hL : AP w L cl l) :
    Calls Try.prog 4 #[.slice A W.length ca, .slice L l.length cl, .int .i64 p, .int .i64 v] w fun e w' => e = .returned (.bool true) ∧ Below w.heap.size w w' := by
  have hle := hW.le
  have hcap := hW.cap
  have hll := hL.le
  have hlc := hL.cap
  have C1 := Lib.hid (sum_any A ca W w hW)
  have C2 := Lib.hid (hsum_any A ca W w hW)
  have C3 := Lib.hid (make_any A ca W w hW)
  have HW := Lib.hid hW
  have HL := Lib.hid hL
  have C4 : Hid (∀ w' : World, Below w.heap.size w w' → Calls Try.prog 16 #[.slice A W.length ca] w' (APost w' (makeC W))) := fun w' hb => hmake_any A ca W w' (HW.out.later hb)
  unfold ptup at C1 C2
  obtain ⟨⟨x1, x2⟩, hx⟩ : ∃ x, sumC W = x := ⟨_, rfl⟩
  obtain ⟨⟨T, f⟩, hT⟩ : ∃ q, makeC W = q := ⟨_, rfl⟩
  rw [hx] at C1 C2
  rw [hT] at C3 C4
  have n1 : (x1 != x1) = false := ineq_no rfl
  have n2 : (x2 != x2) = false := ineq_no rfl
  have n3 : (f != f) = false := ineq_no rfl
  clear hx hT hW hL
  have hcases : (p < 0 ∨ (l.length : Int) ≤ p) ∨ ∃ i : Nat, p = i ∧ i < l.length := by
    by_cases h0 : p < 0
    · exact .inl (.inl h0)
    · by_cases h1 : (l.length : Int) ≤ p
      · exact .inl (.inr h1)
      · exact .inr ⟨p.toNat, by omega, by omega⟩
  go_enter Try.func4, Try.ntmps4
  go_wp2_with fail
  refine C1.out.mono ?_
  rintro e w1 ⟨rfl, rfl⟩
  clear C1
  go_wp2_with fail
  refine C2.out.mono ?_
  rintro e w1 ⟨rfl, rfl⟩
  clear C2
  go_wp2_with fail
  refine C3.out.mono ?_
  rintro e w1 ⟨R1, c1, rfl, hA1, hb1⟩
  have HA1 := Lib.hid hA1
  have HB1 := Lib.hid hb1
  have C4 := Lib.hid (C4.out w1 hb1)
  clear hA1 hb1 C3
  go_wp2_with fail
  refine C4.out.mono ?_
  rintro e w2 ⟨R2, c2, rfl, hA2, hb2⟩
  have HA2 := Lib.hid hA2
  have HA12 := Lib.hid (HA1.out.later hb2)
  have HB2 := Lib.hid (HB1.out.trans (hb2.mono HB1.out.size))
  have HL2 := Lib.hid ((HL.out.later HB1.out).later hb2)
  clear hA2 hb2 C4 HA1 HB1 HL HW
  have CD := Lib.hid (drawA_any L cl l p v w2 HL2.out)
  unfold ptup at CD
  have CE := Lib.hid (aequal_any R1 R2 c1 c2 T T w2 HA12.out HA2.out)
  simp only [decide_true] at CE
  rcases hcases with h | ⟨i, rfl, hi⟩
  · rw [drawA_out h] at CD
    go_wp2_with fail
    refine CD.out.mono ?_
    rintro e w3 ⟨rfl, rfl⟩
    clear CD
    go_wp2_with fail
    refine CE.out.mono ?_
    rintro e w4 ⟨rfl, hb4⟩
    have HB4 := Lib.hid (HB2.out.trans (hb4.mono HB2.out.size))
    clear hb4 CE
    rcases h with h | h
    · go_wp2
      go_ret
      exact ⟨rfl, HB4.out⟩
    · by_cases h0 : p < 0
      · go_wp2
        go_ret
        exact ⟨rfl, HB4.out⟩
      · go_wp2
        go_ret
        exact ⟨rfl, HB4.out⟩
  · by_cases hv : v < lev l i
    · rw [drawA_lo hi hv] at CD
      go_wp2_with fail
      refine CD.out.mono ?_
      rintro e w3 ⟨rfl, rfl⟩
      clear CD
      go_wp2_with fail
      refine CE.out.mono ?_
      rintro e w4 ⟨rfl, hb4⟩
      have HB4 := Lib.hid (HB2.out.trans (hb4.mono HB2.out.size))
      obtain ⟨b, off, rfl, _, hcell⟩ := (HL2.out.later hb4).il (by omega)
      obtain ⟨d0, d1⟩ := hcell i hi
      clear hb4 CE hcell
      generalize lev l i = x at *
      generalize too l i = y at *
      go_wp2
      go_ret
      exact ⟨rfl, HB4.out⟩
    · rw [drawA_hi hi hv] at CD
      generalize hy : too l i = y at *
      have HY := Lib.hid hy
      clear hy
      go_wp2_with fail
      refine CD.out.mono ?_
      rintro e w3 ⟨rfl, rfl⟩
      clear CD
      go_wp2_with fail
      refine CE.out.mono ?_
      rintro e w4 ⟨rfl, hb4⟩
      have HB4 := Lib.hid (HB2.out.trans (hb4.mono HB2.out.size))
      obtain ⟨b, off, rfl, _, hcell⟩ := (HL2.out.later hb4).il (by omega)
      obtain ⟨d0, d1⟩ := hcell i hi
      rw [HY.out] at d1
      clear hb4 CE hcell
      generalize lev l i = x at *
      go_wp2
      go_ret
      exact ⟨rfl, HB4.out⟩
end Go.Proofs.Ytjhcbjpbmbjgoaa
