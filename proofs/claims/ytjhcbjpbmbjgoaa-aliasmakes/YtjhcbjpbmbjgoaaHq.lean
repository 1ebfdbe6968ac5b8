/- The reference's places in memory; structs appended. -/
import Derived.Test.YtjhcbjpbmbjgoaaH9
import Derived.Test.YtjhcbjpbmbjgoaaOi
import Derived.OneCell
namespace Go.Proofs.Ytjhcbjpbmbjgoaa
open Go.RowKit Go.Deep

/-- The reference's places for a table: what it has, its level, where to, open. -/
def pvs (s : Int) : Nat → AT → List Value
  | _, [] => []
  | i, e :: r => .int .i64 (if e.2 = i then e.1 else 0) :: .int .i64 (if e.2 = i then s else e.1) :: .int .i64 e.2 :: .bool (decide (e.2 = i)) :: pvs s (i + 1) r
def hasP (S : AT) (i : Nat) : Int := if too S i = i then lev S i else 0
def lvP (s : Int) (S : AT) (i : Nat) : Int := if too S i = i then s else lev S i
theorem pvs_len (s : Int) : ∀ (S : AT) (k : Nat), (pvs s k S).length = S.length * 4
  | [], _ => rfl
  | e :: r, k => by simp only [pvs, List.length_cons, pvs_len s r (k + 1)]; omega
theorem pvs_at (s : Int) : ∀ (S : AT) (k i : Nat), i < S.length →
    (pvs s k S)[i * 4]? = some (.int .i64 (if too S i = ((k + i : Nat) : Int) then lev S i else 0)) ∧ (pvs s k S)[i * 4 + 1]? = some (.int .i64 (if too S i = ((k + i : Nat) : Int) then s else lev S i)) ∧
    (pvs s k S)[i * 4 + 2]? = some (.int .i64 (too S i)) ∧ (pvs s k S)[i * 4 + 3]? = some (.bool (decide (too S i = ((k + i : Nat) : Int))))
  | [], _, i, h => by simp at h
  | e :: r, k, 0, h => by simp [pvs, lev, too]
  | e :: r, k, i + 1, h => by
    have := pvs_at s r (k + 1) i (by simpa using h)
    rw [show k + 1 + i = k + (i + 1) by omega] at this
    have e4 : ∀ j, (pvs s k (e :: r))[(i + 1) * 4 + j]? = (pvs s (k + 1) r)[i * 4 + j]? := fun j => by
      rw [show (i + 1) * 4 + j = i * 4 + j + 1 + 1 + 1 + 1 by omega, pvs]
      simp only [List.getElem?_cons_succ]
    have e0 := e4 0
    simp only [Nat.add_zero] at e0
    rw [e0, e4 1, e4 2, e4 3]
    exact this
theorem pvs_set (s : Int) : ∀ (S : AT) (k i : Nat) (e : Int × Int), i < S.length →
    pvs s k (S.set i e) = ((((pvs s k S).set (i * 4) (.int .i64 (if e.2 = ((k + i : Nat) : Int) then e.1 else 0))).set (i * 4 + 1) (.int .i64 (if e.2 = ((k + i : Nat) : Int) then s else e.1))).set (i * 4 + 2) (.int .i64 e.2)).set (i * 4 + 3) (.bool (decide (e.2 = ((k + i : Nat) : Int))))
  | [], _, i, _, h => by simp at h
  | x :: r, k, 0, e, h => by simp [pvs]
  | x :: r, k, i + 1, e, h => by
    have := pvs_set s r (k + 1) i e (by simpa using h)
    rw [show k + 1 + i = k + (i + 1) by omega] at this
    rw [List.set_cons_succ, pvs, this, pvs, show (i + 1) * 4 = i * 4 + 1 + 1 + 1 + 1 by omega]
    simp only [List.set_cons_succ]
/-- An open one has another amount. -/
theorem pvs_amt (s : Int) (S : AT) (i : Nat) (x : Int) (h : i < S.length) (ht : too S i = i) : pvs s 0 (S.set i (x, too S i)) = (pvs s 0 S).set (i * 4) (.int .i64 x) := by
  have ha := pvs_at s S 0 i h
  rw [Nat.zero_add, if_pos ht, if_pos ht, decide_eq_true ht] at ha
  obtain ⟨_, a1, a2, a3⟩ := ha
  rw [pvs_set s S 0 i _ h, Nat.zero_add]
  simp only [ht, if_true, decide_true]
  rw [ht] at a2
  apply List.ext_getElem?
  intro j
  have hl : (pvs s 0 S).length = S.length * 4 := pvs_len s S 0
  simp only [List.getElem?_set, List.length_set]
  by_cases e3 : i * 4 + 3 = j
  · subst e3; rw [if_pos rfl, if_pos (by omega), if_neg (by omega), a3]
  · rw [if_neg e3]
    by_cases e2 : i * 4 + 2 = j
    · subst e2; rw [if_pos rfl, if_pos (by omega), if_neg (by omega), a2]
    · rw [if_neg e2]
      by_cases e1 : i * 4 + 1 = j
      · subst e1; rw [if_pos rfl, if_pos (by omega), if_neg (by omega), a1]
      · rw [if_neg e1]
theorem pvs_append (s : Int) : ∀ (S : AT) (k : Nat) (e : Int × Int), pvs s k (S ++ [e]) = pvs s k S ++ [.int .i64 (if e.2 = ((k + S.length : Nat) : Int) then e.1 else 0), .int .i64 (if e.2 = ((k + S.length : Nat) : Int) then s else e.1), .int .i64 e.2, .bool (decide (e.2 = ((k + S.length : Nat) : Int)))]
  | [], k, e => by simp [pvs]
  | x :: r, k, e => by
    rw [List.cons_append, pvs, pvs_append s r (k + 1) e, pvs]
    simp only [List.cons_append, List.length_cons]
    rw [show k + 1 + r.length = k + (r.length + 1) by omega]
theorem avs_append (S : AT) (e : Int × Int) : avs (S ++ [e]) = avs S ++ [.int .i64 e.1, .int .i64 e.2] := by
  induction S with
  | nil => rfl
  | cons x r ih => rw [List.cons_append, avs, ih, avs]; rfl

theorem Bs.other {T : Nat} {w : World} {g : Nat} {vs : List Value} (h : Bs T w g vs) {a : Addr} (ha : g ≠ a.block) (x : Value) : Bs T (w.setCell a x) g vs := by
  unfold Bs at *
  rw [Below.heap_setCell _ _ _ _ ha]; exact h
/-- A store into a row of the call's own. -/
theorem ownsRow_set {w : World} {B E size g n cap : Nat} {xs : List Value} (h : w.ownsRow B E size (.slice (some ⟨g, 0, none⟩) n cap) n xs) (i : Nat) (x : Value) : (w.setCell ⟨g, i, none⟩ x).ownsRow B E size (.slice (some ⟨g, 0, none⟩) n cap) n (xs.set i x) := by
  refine ⟨by rw [List.length_set]; exact h.1, .inr ?_⟩
  rcases h.2 with ⟨h1, _⟩ | ⟨g', cap', cur, e, hB, hg, h1, h2, h3, h4⟩
  · cases h1
  · cases e
    have hb : Bs E w g cur.toList := by simpa [Bs] using hg
    have hs : Bs E (w.setCell ⟨g, i, none⟩ x) g (cur.toList.set i x) := hb.set i x
    refine ⟨g, cap, (cur.toList.set i x).toArray, rfl, hB, hs, h1, h2, by simpa using h3, ?_⟩
    rw [List.take_set, h4]
theorem ownsRow_later {w w' : World} {B E size n : Nat} {v : Value} {xs : List Value} (h : w.ownsRow B E size v n xs) (hb : Below w.heap.size w w') : w'.ownsRow B E size v n xs := by
  refine ⟨h.1, ?_⟩
  rcases h.2 with h | ⟨g, cap, cur, hv, hB, hg, h1, h2, h3, h4⟩
  · exact .inl h
  · exact .inr ⟨g, cap, cur, hv, hB, (hb.block g (lt_of_block hg)).trans hg, h1, h2, h3, h4⟩
/-- 'out = append(out, E{..})'. -/
theorem wpList_pushN {w0 wr : World} {ops : Array Oper} {rest : List Oper} {o : Oper} {a : Act} {Q : Exit → Act → World → Prop} (hgd : o.guard = none) (s x : Operand) (T E : TypeId) (z : Value) (size bytes : Nat)
    (ho : o.op = .call { callee := .builtin .append, args := #[s, x], argTypes := #[T, T] }) (hT : Try.prog.underlying T = some (.slice E)) (hinfo : (Try.prog.info? E).map (fun i => (i.zero, i.size, i.bytes)) = some (some z, size, bytes)) (hzs : z.cells.size = size) (hsz : 0 < size)
    (B B2 : Nat) (v : Value) (n : Nat) (xs news : List Value) (hs : a.eval s = v) (hown : wr.ownsRow B E size v n xs) (Hn : Nat) (hH : wr.heap.size = Hn) (hx : a.eval x = .slice (some ⟨Hn, 0, none⟩) 1 1) (hnl : news.length = size) (h1 : ∀ u ∈ news, u.oneCell' = true)
    (hn : n ≤ 1000000) (hby : bytes ≤ 1000) (hB : B ≤ wr.heap.size) (hB2 : B2 ≤ B) (hbel : Below B2 w0 wr)
    (h : ∀ g cap w', w'.ownsRow B E size (.slice (some ⟨g, 0, none⟩) (n + 1) cap) (n + 1) (xs ++ news) → Below B2 w0 w' → (wr.alloc (.cells news.toArray E)).grownBy w' v.ownBlock → g < w'.heap.size → B ≤ g → wpList Try.prog ops Q rest (a.put o.dst (.slice (some ⟨g, 0, none⟩) (n + 1) cap)) w') :
    wpList Try.prog ops Q (o :: rest) a (wr.alloc (.cells news.toArray E)) := by
  subst hH
  obtain ⟨i0, hi0, hz0, hz1, hz2⟩ := info_parts hinfo
  refine wpList_append_lies _ hgd s x T ho B E i0 z size bytes hT hi0 hz0 hz1 hz2 hzs hsz v n xs hs (World.ownsRow.alloc hown _) ⟨wr.heap.size, 0, none⟩ 1 1 news hx (by rw [Nat.one_mul]; exact hnl) ?c1 h1 (by omega) ?c3 ?c4 ?c5 _ rfl ?_
  case c1 =>
    intro j u hj
    rw [Addr.add_lit, Nat.zero_add, cell_of_row _ wr.heap.size j _ E (0, 0) (heap_alloc_new wr _)]
    simpa using hj
  case c3 => simp only [maxLen]; omega
  case c4 =>
    have : (n + 1) * bytes ≤ 1000001 * 1000 := Nat.mul_le_mul (by omega) hby
    omega
  case c5 => simp; omega
  intro g cap w' h1 h2 _ h4
  refine h g cap w' h1 ?_ h2 h4 (World.ownsRow.lt h1 g rfl).1
  exact (hbel.alloc (Nat.le_trans hB2 hB) _).grown h2 (by simp; omega) (fun k hk => Nat.le_trans hB2 (World.ownsRow.lt hown k hk).1)
theorem info_place : (Try.prog.info? 58).map (fun i => (i.zero, i.size, i.bytes)) = some (some (.agg #[.int .i64 0, .int .i64 0, .int .i64 0, .bool false]), 4, 32) := by kernel_rfl

/-- A slice of the call's own that reads as a table. -/
theorem ap_of_owns {w : World} {B : Nat} {v : Value} {S : AT} (h : w.ownsRow B 41 2 v S.length (avs S)) : ∃ R cap, v = .slice R S.length cap ∧ AP w R cap S := by
  rcases h.2 with ⟨rfl, h0⟩ | ⟨g, cap, cur, rfl, hB, hg, h1, h2, h3, h4⟩
  · have : S = [] := List.eq_nil_of_length_eq_zero h0
    subst this
    exact ⟨none, 0, rfl, ⟨fun h => by simp at h, by simp, by omega, fun _ => rfl⟩⟩
  · refine ⟨some ⟨g, 0, none⟩, cap, rfl, ⟨fun h0 => ⟨g, 0, rfl, lt_of_block hg, fun i hi => ?_⟩, h1, by unfold maxLen at h2; omega, fun h => by cases h⟩⟩
    rw [Nat.zero_add, World.ownsRow.cellAt h (i * 2) (by omega), World.ownsRow.cellAt h (i * 2 + 1) (by omega), avs_at0 hi, avs_at1 hi]
    exact ⟨rfl, rfl⟩
end Go.Proofs.Ytjhcbjpbmbjgoaa
