/- bottom.Common. -/
import Derived.Test.YtnihcpaakbhpcaaG6
import Derived.Test.YtnihcpaakbhpcaaG9
import Derived.Test.YtnihcpaakbhpcaaU6
namespace Go.Proofs.Ytnihcpaakbhpcaa
open Go.RowKit Go.Deep Go.Sort Go.Shelf Go.Lib

/-- How many of them both have. -/
def cmnL (a b : List W64) (u : List W64) : Nat := u.countP fun x => decide (x ∈ a) && decide (x ∈ b)
theorem cmnL_snoc (a b u : List W64) (x : W64) : cmnL a b (u ++ [x]) = cmnL a b u + if (decide (x ∈ a) && decide (x ∈ b)) = true then 1 else 0 := by
  unfold cmnL
  rw [List.countP_append, List.countP_singleton]
theorem cmnL_le (a b u : List W64) : cmnL a b u ≤ u.length := List.countP_le_length
/-- What Common answers. -/
def comF (s : W64) (r : Int) (a b : List W64) : Int × Int × Int := if RtP s r a ∧ RtP s r b then (((cmnL a b (skL s r (a ++ b)) : Nat) : Int), (((skL s r (a ++ b)).length : Nat) : Int), (0 : Int)) else (0, 0, 1)
theorem comF_ok {s : W64} {r : Int} {a b : List W64} (h1 : RtP s r a) (h2 : RtP s r b) : comF s r a b = (((cmnL a b (skL s r (a ++ b)) : Nat) : Int), (((skL s r (a ++ b)).length : Nat) : Int), (0 : Int)) := if_pos ⟨h1, h2⟩

set_option maxRecDepth 100000 in
set_option maxHeartbeats 2000000 in
theorem common_any (s : W64) (r : Int) (A1 A2 : Option Addr) (c1 c2 : Nat) (a b : List W64) (w : World) (ha : UP w A1 c1 a) (hb : UP w A2 c2 b) :
    Calls Try.prog 15 #[.int .u64 (s.toNat : Int), .int .i64 r, .slice A1 a.length c1, .slice A2 b.length c2] w fun e w' => e = .returned (tup (comF s r a b)) ∧ Below w.heap.size w w' := by
  have CJ := Lib.hid (join_any s r A1 A2 c1 c2 a b w ha hb)
  by_cases h : RtP s r a ∧ RtP s r b
  · have hj : joinF s r a b = (skL s r (a ++ b), 0) := if_pos h
    have hc := comF_ok h.1 h.2
    rw [hj] at CJ
    rw [hc]
    have h1 := h.1.2
    have h2 := h.2.2
    have la : a.length ≤ 400 := by have := h.1.1.2; have := h.1.1.1.2; omega
    have lb : b.length ≤ 400 := by have := h.2.1.2; have := h.2.1.1.2; omega
    have lu : (skL s r (a ++ b)).length ≤ 400 := by have := skL_len s r (a ++ b) (by have := h.1.1.1.1; omega); have := h.1.1.1.2; omega
    have BA : Hid (∀ (Bx : Nat) (x : W64) (w1 : World), Below w.heap.size w w1 → Boxed w1 Bx 22 (.int .u64 (s.toNat : Int)) → Calls Try.prog 40 #[.slice A1 a.length c1, .int .u64 (x.toNat : Int), .func (.func 55) #[] #[.pointer (some ⟨Bx, 0, none⟩)]] w1 fun e w' => ∃ i : Int, e = .returned (.tuple #[.int .i64 i, .bool (decide (x ∈ a))]) ∧ Below w1.heap.size w1 w') := fun Bx x w1 hb hX => bsearch_any s x Bx A1 c1 a w1 (ha.later hb) h1 hX (by omega)
    have BB : Hid (∀ (Bx : Nat) (x : W64) (w1 : World), Below w.heap.size w w1 → Boxed w1 Bx 22 (.int .u64 (s.toNat : Int)) → Calls Try.prog 40 #[.slice A2 b.length c2, .int .u64 (x.toNat : Int), .func (.func 55) #[] #[.pointer (some ⟨Bx, 0, none⟩)]] w1 fun e w' => ∃ i : Int, e = .returned (.tuple #[.int .i64 i, .bool (decide (x ∈ b))]) ∧ Below w1.heap.size w1 w') := fun Bx x w1 hbl hX => bsearch_any s x Bx A2 c2 b w1 (hb.later hbl) h2 hX (by omega)
    generalize skL s r (a ++ b) = u at *
    obtain ⟨na, hna⟩ : ∃ n, a.length = n := ⟨_, rfl⟩
    obtain ⟨nb, hnb⟩ : ∃ n, b.length = n := ⟨_, rfl⟩
    obtain ⟨nu, hnu⟩ : ∃ n, u.length = n := ⟨_, rfl⟩
    have HNU : Hid (u.length = nu) := hnu
    rw [hna] at CJ BA
    rw [hnb] at CJ BB
    rw [hna, hnb, hnu]
    rw [hnu] at lu
    unfold tup
    clear h hj hc ha hb h1 h2 la lb hna hnb hnu
    go_enter Try.func15, Try.ntmps15
    go_wp2_with fail
    refine CJ.out.mono ?_
    rintro e w1 ⟨v, rfl, hO, hb⟩
    obtain ⟨R, cr, rfl, hU⟩ := hO.up
    dsimp only at hU ⊢
    rw [HNU.out]
    have HB := Lib.hid hb
    have HU := Lib.hid hU
    have RK := Lib.hid (byRank_any s w1)
    unfold rkF at RK
    have hX0 : Boxed (w1.alloc (.cells #[.int .u64 (s.toNat : Int)] 22)) w1.heap.size 22 (.int .u64 (s.toNat : Int)) := Boxed.new _ _ _
    have hb0 : Below w1.heap.size w1 (w1.alloc (.cells #[.int .u64 (s.toNat : Int)] 22)) := (Below.refl _ _).alloc (Nat.le_refl _) _
    have hs0 : w1.heap.size < (w1.alloc (.cells #[.int .u64 (s.toNat : Int)] 22)).heap.size := by simp
    obtain ⟨w2, hw2⟩ : ∃ w2, w1.alloc (.cells #[.int .u64 (s.toNat : Int)] 22) = w2 := ⟨_, rfl⟩
    rw [hw2] at RK hX0 hb0 hs0
    have HX := Lib.hid hX0
    have HB2 := Lib.hid (HB.out.trans (hb0.mono HB.out.size))
    have HU2 := Lib.hid (HU.out.later hb0)
    have HS := Lib.hid hs0
    clear hO hb hU CJ hX0 hb0 hs0 hw2 HU HB
    go_wp2_with fail
    refine RK.out.mono ?_
    rintro e w2 ⟨rfl, rfl⟩
    clear RK
    generalize w1.heap.size = Bx at *
    go_wp2_with fail
    go_loopw [14, 36] (fun cv iv wr => ∃ k : Nat, k ≤ nu ∧ iv = .int .i64 k ∧ cv = .int .i64 (cmnL a b (u.take k) : Nat) ∧ Below w2.heap.size w2 wr) (fun _ iv _ => nu - (intOf iv).toNat)
    case atStart => exact ⟨0, by omega, rfl, rfl, Below.refl _ _⟩
    case round =>
      obtain ⟨k, hk, rfl, rfl, hb⟩ := hrel
      have HB := Lib.hid hb
      have HBW := Lib.hid (HB2.out.trans (hb.mono HB2.out.size))
      have hXw : Boxed wr Bx 22 (.int .u64 (s.toNat : Int)) := (hb.block _ HS.out).trans HX.out
      have HXW := Lib.hid hXw
      have hcl : cmnL a b (u.take k) ≤ 400 := by have := cmnL_le a b (u.take k); rw [List.length_take] at this; omega
      clear hb hXw
      by_cases hlt : k < nu
      · obtain ⟨bl, off, rfl, _, hcell⟩ := (HU2.out.later HB.out).ul.at (by rw [HNU.out]; omega)
        have ck := hcell k (by rw [HNU.out]; exact hlt)
        have htk : u.take (k + 1) = u.take k ++ [u.getD k 0] := by
          have hk2 : k < u.length := by rw [HNU.out]; exact hlt
          rw [List.take_add_one]; simp [List.getD_eq_getElem?_getD, hk2]
        have HS2 := Lib.hid (cmnL_snoc a b (u.take k) (u.getD k 0))
        rw [← htk] at HS2
        have hcl2 : cmnL a b (u.take (k + 1)) ≤ 400 := by have := cmnL_le a b (u.take (k + 1)); rw [List.length_take] at this; omega
        clear hcell htk
        generalize u.getD k 0 = x at *
        have C1 := Lib.hid (BA.out Bx x wr HBW.out HXW.out)
        generalize hda : decide (x ∈ a) = da at *
        clear hda
        have i1 : (k : Int) < (nu : Int) := by omega
        go_wp2_with fail
        refine C1.out.mono ?_
        rintro e w3 ⟨i3, rfl, hb3⟩
        have HB3 := Lib.hid (HB.out.trans (hb3.mono HB.out.size))
        have HBW3 := Lib.hid (HBW.out.trans (hb3.mono HBW.out.size))
        have C2 := Lib.hid (BB.out Bx x w3 HBW3.out ((hb3.block _ (Boxed.lt HXW.out)).trans HXW.out))
        generalize hdb : decide (x ∈ b) = db at *
        clear hdb hb3 C1 HBW HXW
        go_wp2_with fail
        refine C2.out.mono ?_
        rintro e w4 ⟨i4, rfl, hb4⟩
        have HB4 := Lib.hid (HB3.out.trans (hb4.mono HB3.out.size))
        clear hb4 C2
        generalize cmnL a b (u.take k) = cn at *
        generalize hcn2 : cmnL a b (u.take (k + 1)) = cn2 at *
        have HC2 := Lib.hid hcn2
        clear hcn2
        cases da <;> cases db
        case true.true =>
          have e2 := HS2.out
          simp at e2
          have HE := Lib.hid e2
          clear e2 HS2
          go_wp2
          go_roundw
          case rel => exact ⟨k + 1, by omega, by go_num, by rw [HC2.out, HE.out]; rfl, HB4.out⟩
          case measure => simp [intOf]; omega
        all_goals
          have e2 := HS2.out
          simp at e2
          have HE := Lib.hid e2
          clear e2 HS2
          go_wp2
          go_roundw
          case rel => exact ⟨k + 1, by omega, by go_num, by rw [HC2.out, HE.out], HB4.out⟩
          case measure => simp [intOf]; omega
      · obtain rfl : k = nu := by omega
        have HT : Hid (u.take k = u) := by show _ = _; rw [← HNU.out, List.take_length]
        rw [HT.out]
        rw [HT.out] at hcl
        clear HX HU2 HS BA BB HXW
        go_wp2
        go_ret3
        exact ⟨rfl, HBW.out⟩
  · have hj : joinF s r a b = ([], 1) := if_neg h
    have hc : comF s r a b = (0, 0, 1) := if_neg h
    rw [hj] at CJ
    rw [hc]
    unfold tup
    clear hj hc h ha hb
    go_enter Try.func15, Try.ntmps15
    go_wp2_with fail
    refine CJ.out.mono ?_
    rintro e w1 ⟨v, rfl, hO, hb⟩
    have HB := Lib.hid hb
    obtain ⟨R, cr, rfl, hU⟩ := hO.up
    clear hO hb CJ hU
    go_wp2
    go_ret3
    exact ⟨rfl, HB.out⟩
end Go.Proofs.Ytnihcpaakbhpcaa
