/- bottom.Join. -/
import Derived.Test.YtnihcpaakbhpcaaG5
import Derived.Test.YtnihcpaakbhpcaaU4
namespace Go.Proofs.Ytnihcpaakbhpcaa
open Go.RowKit Go.Deep Go.Sort Go.Shelf Go.Lib

/-- What Join answers. -/
def joinF (s : W64) (r : Int) (a b : List W64) : List W64 × Int := if RtP s r a ∧ RtP s r b then (skL s r (a ++ b), 0) else ([], 1)

set_option maxRecDepth 100000 in
set_option maxHeartbeats 2000000 in
theorem join_any (s : W64) (r : Int) (A1 A2 : Option Addr) (c1 c2 : Nat) (a b : List W64) (w : World) (ha : UP w A1 c1 a) (hb : UP w A2 c2 b) :
    Calls Try.prog 13 #[.int .u64 (s.toNat : Int), .int .i64 r, .slice A1 a.length c1, .slice A2 b.length c2] w (UOPost w (joinF s r a b)) := by
  have C1 := Lib.hid (right_any s r A1 c1 a w ha)
  have C2 : Hid (∀ w', Below w.heap.size w w' → Calls Try.prog 17 #[.int .u64 (s.toNat : Int), .int .i64 r, .slice A2 b.length c2] w' fun e w'' => e = .returned (.bool (decide (RtP s r b))) ∧ Below w'.heap.size w' w'') := fun w' h => right_any s r A2 c2 b w' (hb.later h)
  by_cases h1 : RtP s r a
  · rw [decide_eq_true h1] at C1
    by_cases h2 : RtP s r b
    · rw [decide_eq_true h2] at C2
      have HE : Hid (joinF s r a b = (skL s r (a ++ b), 0)) := if_pos ⟨h1, h2⟩
      rw [HE.out]
      have h400 := h1.1.1.2
      have hr1 := h1.1.1.1
      have hla := h1.1.2
      have hlb := h2.1.2
      have HA := Lib.hid ha
      have HB := Lib.hid hb
      have HCC : Hid (∀ w2, Below w.heap.size w w2 → Calls Try.prog 25 #[.slice (some ⟨w2.heap.size, 0, none⟩) 2 2] (w2.alloc (.cells #[.slice A1 a.length c1, .slice A2 b.length c2] 25)) fun e w' => ∃ v, e = .returned v ∧ OU w' (w2.heap.size + 1) v (a ++ b) ∧ Below (w2.heap.size + 1) (w2.alloc (.cells #[.slice A1 a.length c1, .slice A2 b.length c2] 25)) w') := fun w2 hw => by
        have hbv : Below w2.heap.size w2 (w2.alloc (.cells #[.slice A1 a.length c1, .slice A2 b.length c2] 25)) := (Below.refl _ _).alloc (Nat.le_refl _) _
        have := concat2_any w2.heap.size A1 A2 c1 c2 a b (w2.alloc (.cells #[.slice A1 a.length c1, .slice A2 b.length c2] 25)) (by simp) (by simp) (by simp) ((HA.out.later hw).later hbv) ((HB.out.later hw).later hbv) (by omega)
        rwa [World.size_alloc] at this
      have hlab : (a ++ b).length ≤ 800 := by rw [List.length_append]; omega
      generalize a ++ b = ab at *
      clear HE h1 h2 ha hb
      go_enter Try.func13, Try.ntmps13
      go_wp2_with fail
      refine C1.out.mono ?_
      rintro e w1 ⟨rfl, hb1⟩
      have HB1 := Lib.hid hb1
      clear hb1
      go_wp2_with fail
      refine (C2.out w1 HB1.out).mono ?_
      rintro e w2 ⟨rfl, hb2⟩
      have HB2 := Lib.hid (HB1.out.trans (hb2.mono HB1.out.size))
      clear hb2 HB1 C1 C2
      go_wp2_with fail
      refine (HCC.out w2 HB2.out).mono ?_
      rintro e w3 ⟨v, rfl, hO, hb3⟩
      have hbv : Below w2.heap.size w2 (w2.alloc (.cells #[.slice A1 a.length c1, .slice A2 b.length c2] 25)) := (Below.refl _ _).alloc (Nat.le_refl _) _
      have HB3 := Lib.hid (HB2.out.trans ((hbv.trans (hb3.mono (by omega))).mono HB2.out.size))
      obtain ⟨R, cr, rfl, hU⟩ := hO.up
      have K := Lib.hid (lowest_any s r R cr ab w3 hr1 h400 hU (by omega))
      clear hO hb3 hU hbv HCC HB2
      go_wp2_with fail
      refine K.out.mono ?_
      rintro e w4 ⟨v, rfl, hO, hb⟩
      have HO := Lib.hid (uopost_ou (w := w) (e := 0) (hO.base HB3.out.size) (HB3.out.trans (hb.mono HB3.out.size)))
      clear hO hb K
      go_wp2
      go_ret2
      exact HO.out
    · rw [decide_eq_false h2] at C2
      have HE : Hid (joinF s r a b = ([], 1)) := if_neg (fun h => h2 h.2)
      rw [HE.out]
      clear HE h1 h2 ha hb
      go_enter Try.func13, Try.ntmps13
      go_wp2_with fail
      refine C1.out.mono ?_
      rintro e w1 ⟨rfl, hb1⟩
      have HB1 := Lib.hid hb1
      clear hb1
      go_wp2_with fail
      refine (C2.out w1 HB1.out).mono ?_
      rintro e w2 ⟨rfl, hb2⟩
      have HB2 := Lib.hid (HB1.out.trans (hb2.mono HB1.out.size))
      clear hb2 HB1 C1 C2
      go_wp2
      go_ret2
      exact uopost_none HB2.out
  · rw [decide_eq_false h1] at C1
    have HE : Hid (joinF s r a b = ([], 1)) := if_neg (fun h => h1 h.1)
    rw [HE.out]
    clear HE h1 ha hb C2
    go_enter Try.func13, Try.ntmps13
    go_wp2_with fail
    refine C1.out.mono ?_
    rintro e w1 ⟨rfl, hb1⟩
    have HB1 := Lib.hid hb1
    clear hb1 C1
    go_wp2
    go_ret2
    exact uopost_none HB1.out
end Go.Proofs.Ytnihcpaakbhpcaa
