import Derived.Test.YtnihcpaakbhpcaaG5
import Derived.Test.YtnihcpaakbhpcaaU4
import Derived.Test.YtnihcpaakbhpcaaJn4
import Derived.Test.YtnihcpaakbhpcaaJn3
import Derived.Laws.AppendOwnNone
import Derived.Test.YtnihcpaakbhpcaaGl
import Derived.Test.YtnihcpaakbhpcaaGt
/- bottom.Join. -/
namespace Go.Proofs.Ytnihcpaakbhpcaa
open Go.RowKit Go.Deep Go.Sort Go.Shelf Go.Lib

/-- What Join answers. -/
def joinF (s : W64) (r : Int) (a b : List W64) : List W64 × Int := if RtP s r a ∧ RtP s r b then (skL s r (a ++ b), 0) else ([], 1)

set_option maxRecDepth 100000 in
set_option maxHeartbeats 2000000 in
theorem join_any (s : W64) (r : Int) (A1 A2 : Option Addr) (c1 c2 : Nat) (a b : List W64) (w : World) (ha : UP w A1 c1 a) (hb : UP w A2 c2 b) :
    Calls Try.prog 13 #[.int .u64 (s.toNat : Int), .int .i64 r, .slice A1 a.length c1, .slice A2 b.length c2] w (UOPost w (joinF s r a b)) := by
  have C1 := Lib.hid (right_any s r A1 c1 a w ha)
  have C2 : Hid (∀ w', Below w.heap.size w w' → Calls Try.prog 17 #[.int .u64 (s.toNat : Int), .int .i64 r, .slice A2 b.length c2] w' fun e w'' => e = .returned (.bool (decide (RtP s r b))) ∧ Below w'.heap.size w' w'') := fun w' h => right_any s r A2 c2 b w' (hb.later h)
  by_cases h1 : RtP s r a
  · rw [decide_eq_true h1] at C1
    by_cases h2 : RtP s r b
    · rw [decide_eq_true h2] at C2
      have HE : Hid (joinF s r a b = (skL s r (a ++ b), 0)) := if_pos ⟨h1, h2⟩
      rw [HE.out]
      have h400 := h1.1.1.2
      have hr1 := h1.1.1.1
      have hla := h1.1.2
      have hlb := h2.1.2
      have HA := Lib.hid ha
      have HB := Lib.hid hb
      have HCC : Hid (∀ w2, Below w.heap.size w w2 → Calls Try.prog 25 #[.slice (some ⟨w2.heap.size, 0, none⟩) 2 2] (w2.alloc (.cells #[.slice A1 a.length c1, .slice A2 b.length c2] 25)) fun e w' => ∃ v, e = .returned v ∧ OU w' (w2.heap.size + 1) v (a ++ b) ∧ Below (w2.heap.size + 1) (w2.alloc (.cells #[.slice A1 a.length c1, .slice A2 b.length c2] 25)) w') := fun w2 hw => by
        have hbv : Below w2.heap.size w2 (w2.alloc (.cells #[.slice A1 a.length c1, .slice A2 b.length c2] 25)) := (Below.refl _ _).alloc (Nat.le_refl _) _
        have := concat2_any w2.heap.size A1 A2 c1 c2 a b (w2.alloc (.cells #[.slice A1 a.length c1, .slice A2 b.length c2] 25)) (by simp) (by simp) (by simp) ((HA.out.later hw).later hbv) ((HB.out.later hw).later hbv) (by omega)
        rwa [World.size_alloc] at this
      have hlab : (a ++ b).length ≤ 800 := by rw [List.length_append]; omega
      generalize a ++ b = ab at *
      clear HE h1 h2 ha hb
      go_enter Try.func13, Try.ntmps13
      go_wp2_with fail
      refine C1.out.mono ?_
      rintro e w1 ⟨rfl, hb1⟩
      have HB1 := Lib.hid hb1
      clear hb1
      go_wp2_with fail
      refine (C2.out w1 HB1.out).mono ?_
      rintro e w2 ⟨rfl, hb2⟩
      have HB2 := Lib.hid (HB1.out.trans (hb2.mono HB1.out.size))
      clear hb2 HB1 C1 C2
      go_wp2_with fail
      refine (HCC.out w2 HB2.out).mono ?_
      rintro e w3 ⟨v, rfl, hO, hb3⟩
      have hbv : Below w2.heap.size w2 (w2.alloc (.cells #[.slice A1 a.length c1, .slice A2 b.length c2] 25)) := (Below.refl _ _).alloc (Nat.le_refl _) _
      have HB3 := Lib.hid (HB2.out.trans ((hbv.trans (hb3.mono (by omega))).mono HB2.out.size))
      obtain ⟨R, cr, rfl, hU⟩ := hO.up
      have K := Lib.hid (lowest_any s r R cr ab w3 hr1 h400 hU (by omega))
      clear hO hb3 hU hbv HCC HB2
      go_wp2_with fail
      refine K.out.mono ?_
      rintro e w4 ⟨v, rfl, hO, hb⟩
      have HO := Lib.hid (uopost_ou (w := w) (e := 0) (hO.base HB3.out.size) (HB3.out.trans (hb.mono HB3.out.size)))
      clear hO hb K
      go_wp2
      go_ret2
      exact HO.out
    · rw [decide_eq_false h2] at C2
      have HE : Hid (joinF s r a b = ([], 1)) := if_neg (fun h => h2 h.2)
      rw [HE.out]
      clear HE h1 h2 ha hb
      go_enter Try.func13, Try.ntmps13
      go_wp2_with fail
      refine C1.out.mono ?_
      rintro e w1 ⟨rfl, hb1⟩
      have HB1 := Lib.hid hb1
      clear hb1
      go_wp2_with fail
      refine (C2.out w1 HB1.out).mono ?_
      rintro e w2 ⟨rfl, hb2⟩
      have HB2 := Lib.hid (HB1.out.trans (hb2.mono HB1.out.size))
      clear hb2 HB1 C1 C2
      go_wp2
      go_ret2
      exact uopost_none HB2.out
  · rw [decide_eq_false h1] at C1
    have HE : Hid (joinF s r a b = ([], 1)) := if_neg (fun h => h1 h.1)
    rw [HE.out]
    clear HE h1 ha hb C2
    go_enter Try.func13, Try.ntmps13
    go_wp2_with fail
    refine C1.out.mono ?_
    rintro e w1 ⟨rfl, hb1⟩
    have HB1 := Lib.hid hb1
    clear hb1 C1
    go_wp2
    go_ret2
    exact uopost_none HB1.out
end Go.Proofs.Ytnihcpaakbhpcaa

/- 'append(s, l...)' of words, where s is the call's own and l any list. -/
namespace Go.Proofs.Ytnihcpaakbhpcaa
open Go.RowKit Go.Deep

theorem wpList_appU {wr : World} {ops : Array Oper} {rest : List Oper} {o : Oper} {a : Act} {Q : Exit → Act → World → Prop} (hgd : o.guard = none) (s x : Operand)
    (ho : o.op = .call { callee := .builtin .append, args := #[s, x], argTypes := #[25, 25] }) (B : Nat) (v : Value) (xs : List W64) (hs : a.eval s = v) (hown : OU wr B v xs) (A : Option Addr) (n c : Nat) (l : List W64) (hn : l.length = n)
    (hx : a.eval x = .slice A n c) (hl : UP wr A c l) (hb : xs.length + l.length ≤ 17592186044416) (hB : B ≤ wr.heap.size)
    (h : ∀ v' w', OU w' B v' (xs ++ l) → Below B wr w' → wpList Try.prog ops Q rest (a.put o.dst v') w') :
    wpList Try.prog ops Q (o :: rest) a wr := by
  subst hn
  obtain ⟨i0, hi0, hz0, hz1, hz2⟩ := info_parts info_u64
  rcases Nat.eq_zero_or_pos l.length with h0 | h0
  · obtain rfl : l = [] := List.eq_nil_of_length_eq_zero h0
    have hr : ∀ ty, (Builtin.append_ #[25, 25] ty #[v, .slice A ([] : List W64).length c]).run Try.prog wr = .ok v wr := fun ty => by
      rcases hown.2 with ⟨rfl, h1⟩ | ⟨g, cap, cur, rfl, _, hg, hc, hcm, _, _⟩
      · simp [Builtin.append_, run_underlying Try.underlying25, Go.sizeOf, typeInfo, hi0, Builtin.lenOf, Builtin.firstCells, loadCells, loadCellsFrom]
        cases A <;> simp [loadCells, loadCellsFrom]
      · simp [Builtin.append_, run_underlying Try.underlying25, Go.sizeOf, typeInfo, hi0, Builtin.lenOf, Builtin.firstCells, loadCells, loadCellsFrom, hc]
        cases A <;> simp [loadCells, loadCellsFrom, storeCells]
    refine wpList_append_run hgd s x _ _ ho _ _ _ hs hx hr (h _ _ (by rw [List.append_nil]; exact hown) (Below.refl _ _))
  · obtain ⟨b, off, rfl, hlt, hc⟩ := hl.ul.at h0
    refine wpList_append_own _ hgd s x 25 ho B 22 i0 (.int .u64 0) 1 8 Try.underlying25 hi0 hz0 hz1 hz2 rfl (by decide) v xs.length (uvs xs) hs hown ⟨b, off, none⟩ l.length c (uvs l) hx ?c0 ?c1 ?c2 ?c3 ?c4 hB ?_
    case c0 => simp [uvs]
    case c1 =>
      intro j u hj
      have hj2 : j < l.length := by have := (List.getElem?_eq_some_iff.1 hj).1; rwa [uvs_len] at this
      rw [Addr.add_lit, hc j hj2, ← hj, uvs_at hj2]
    case c2 => intro u hu; obtain ⟨y, _, rfl⟩ := List.mem_map.1 hu; rfl
    case c3 => unfold maxLen; omega
    case c4 => omega
    intro v' w' hown' hgrow hnil
    refine h v' w' ?_ ?_
    · unfold OU
      rw [uvs_append, List.length_append]
      exact hown'
    · exact (Below.refl B wr).grown hgrow hB (fun k hk => (World.ownsRow.lt hown k hk).1)
theorem OU.made0 (w : World) : OU (w.alloc (.cells #[] 22)) w.heap.size (.slice (some ⟨w.heap.size, 0, none⟩) 0 0) [] := World.ownsRow_made w #[] 0 (Nat.le_refl _) (Nat.zero_le _) rfl
end Go.Proofs.Ytnihcpaakbhpcaa

/- lotdrawerref.LJoin. -/
namespace Go.Proofs.Ytnihcpaakbhpcaa
open Go.RowKit Go.Deep

set_option maxRecDepth 100000 in
set_option maxHeartbeats 2000000 in
theorem ljoin_any (s : W64) (r : Int) (A1 A2 : Option Addr) (c1 c2 : Nat) (a b : List W64) (w : World) (ha : UP w A1 c1 a) (hb : UP w A2 c2 b) :
    Calls Try.prog 14 #[.int .u64 (s.toNat : Int), .int .i64 r, .slice A1 a.length c1, .slice A2 b.length c2] w (UOPost w (joinF s r a b)) := by
  have C1 := Lib.hid (lright_any s r A1 c1 a w ha)
  have C2 : Hid (∀ w', Below w.heap.size w w' → Calls Try.prog 18 #[.int .u64 (s.toNat : Int), .int .i64 r, .slice A2 b.length c2] w' fun e w'' => e = .returned (.bool (decide (RtP s r b))) ∧ Below w'.heap.size w' w'') := fun w' h => lright_any s r A2 c2 b w' (hb.later h)
  by_cases h1 : RtP s r a
  · rw [decide_eq_true h1] at C1
    by_cases h2 : RtP s r b
    · rw [decide_eq_true h2] at C2
      have HE : Hid (joinF s r a b = (skL s r (a ++ b), 0)) := if_pos ⟨h1, h2⟩
      rw [HE.out]
      have h400 := h1.1.1.2
      have hr1 := h1.1.1.1
      have hla := h1.1.2
      have hlb := h2.1.2
      have HA := Lib.hid ha
      have HB := Lib.hid hb
      obtain ⟨na, hna⟩ : ∃ n, a.length = n := ⟨_, rfl⟩
      obtain ⟨nb, hnb⟩ : ∃ n, b.length = n := ⟨_, rfl⟩
      have HNA := Lib.hid hna
      have HNB := Lib.hid hnb
      rw [hna] at C1 hla ⊢
      rw [hnb] at C2 hlb ⊢
      have hlab : (a ++ b).length ≤ 800 := by rw [List.length_append]; omega
      have HAB := Lib.hid hlab
      clear HE h1 h2 ha hb hna hnb hlab
      go_enter Try.func14, Try.ntmps14
      go_wp2_with fail
      refine C1.out.mono ?_
      rintro e w1 ⟨rfl, hb1⟩
      have HB1 := Lib.hid hb1
      clear hb1
      go_wp2_with fail
      refine (C2.out w1 HB1.out).mono ?_
      rintro e w2 ⟨rfl, hb2⟩
      have HB2 := Lib.hid (HB1.out.trans (hb2.mono HB1.out.size))
      clear hb2 HB1 C1 C2
      have hb0 : Below w2.heap.size w2 (w2.alloc (.cells #[] 22)) := (Below.refl _ _).alloc (Nat.le_refl _) _
      have HA2 := Lib.hid ((HA.out.later HB2.out).later hb0)
      have HO0 := Lib.hid (OU.made0 w2)
      have HB0 := Lib.hid hb0
      clear hb0
      go_wp2_with (first | (at_builtin; refine wpList_appU rfl _ _ rfl w2.heap.size _ [] rfl HO0.out A1 na c1 a HNA.out rfl HA2.out (by have := HNA.out; simp; omega) HB0.out.size ?_; intro v3 w3 hO3 hb3) | (at_builtin; refine wpList_appU rfl _ _ rfl w2.heap.size v3 ([] ++ a) rfl hO3 A2 nb c2 b HNB.out rfl ((HB.out.later HB2.out).later (HB0.out.trans hb3)) (by have := HNA.out; have := HNB.out; simp; omega) (HB0.out.trans hb3).size ?_; intro v4 w4 hO4 hb4))
      have HB4 := Lib.hid (HB0.out.trans (hb3.trans hb4))
      have hO5 : OU w4 w2.heap.size v4 (a ++ b) := hO4
      obtain ⟨R, cr, rfl, hU⟩ := hO5.up
      have hs : (a ++ b).length ≤ 17592186044416 := by have := HAB.out; omega
      have K := Lib.hid (lleast_any s r R cr (a ++ b) w4 hU hr1 h400 hs)
      have HB5 := Lib.hid (HB2.out.trans (HB4.out.mono HB2.out.size))
      clear hO3 hb3 hb4 hU hO4 hO5 hs
      refine K.out.mono ?_
      rintro e w5 ⟨v, rfl, hO, hb⟩
      have HO := Lib.hid (uopost_ou (w := w) (e := 0) (hO.base HB5.out.size) (HB5.out.trans (hb.mono HB5.out.size)))
      clear hO hb K
      go_wp2
      go_ret2
      exact HO.out
    · rw [decide_eq_false h2] at C2
      have HE : Hid (joinF s r a b = ([], 1)) := if_neg (fun h => h2 h.2)
      rw [HE.out]
      clear HE h1 h2 ha hb
      go_enter Try.func14, Try.ntmps14
      go_wp2_with fail
      refine C1.out.mono ?_
      rintro e w1 ⟨rfl, hb1⟩
      have HB1 := Lib.hid hb1
      clear hb1
      go_wp2_with fail
      refine (C2.out w1 HB1.out).mono ?_
      rintro e w2 ⟨rfl, hb2⟩
      have HB2 := Lib.hid (HB1.out.trans (hb2.mono HB1.out.size))
      clear hb2 HB1 C1 C2
      go_wp2
      go_ret2
      exact uopost_none HB2.out
  · rw [decide_eq_false h1] at C1
    have HE : Hid (joinF s r a b = ([], 1)) := if_neg (fun h => h1 h.1)
    rw [HE.out]
    clear HE h1 ha hb C2
    go_enter Try.func14, Try.ntmps14
    go_wp2_with fail
    refine C1.out.mono ?_
    rintro e w1 ⟨rfl, hb1⟩
    have HB1 := Lib.hid hb1
    clear hb1 C1
    go_wp2
    go_ret2
    exact uopost_none HB1.out
end Go.Proofs.Ytnihcpaakbhpcaa
