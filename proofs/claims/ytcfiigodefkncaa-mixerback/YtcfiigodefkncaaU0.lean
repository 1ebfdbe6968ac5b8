/- Slices of 64-bit integers, as lists of words: cells, l[c:], slices of the call's own that append makes (Te, Tv, Iv, Oi, Ol once more, at uint64). -/
import Derived.Test.YtcfiigodefkncaaTv
import Derived.Test.YtcfiigodefkncaaBb
import Derived.Deep.OwnRows
import Derived.Laws.AppendOwn
import Derived.Laws.OwnMore
import Derived.Deep.AppendLies
namespace Go.Proofs.Ytcfiigodefkncaa
open Go.RowKit Go.Deep

abbrev W64 := BitVec 64
/-- A word as a value. -/
def uv (x : W64) : Value := .int .u64 (x.toNat : Int)
def uvs (l : List W64) : List Value := l.map uv
theorem uvs_len (l : List W64) : (uvs l).length = l.length := by simp [uvs]
theorem uvs_at {l : List W64} {j : Nat} (h : j < l.length) : (uvs l)[j]? = some (.int .u64 ((l.getD j 0).toNat : Int)) := by
  simp [uvs, uv, List.getD_eq_getElem?_getD, h]
theorem uvs_take (t : List W64) (n : Nat) : uvs (t.take n) = (uvs t).take n := by simp [uvs]
theorem uvs_drop (t : List W64) (n : Nat) : uvs (t.drop n) = (uvs t).drop n := by simp [uvs]
theorem uvs_append (a b : List W64) : uvs (a ++ b) = uvs a ++ uvs b := by simp [uvs]
def Ul (w : World) (A : Option Addr) (l : List W64) : Prop := Vs w A (uvs l)
theorem Ul.at {w : World} {A : Option Addr} {l : List W64} (h : Ul w A l) (h0 : 0 < l.length) : ∃ b off : Nat, A = some ⟨b, off, none⟩ ∧ b < w.heap.size ∧ ∀ j, j < l.length → w.cell? ⟨b, off + j, none⟩ = some (.int .u64 ((l.getD j 0).toNat : Int)) := by
  obtain ⟨b, off, e, hlt, hc⟩ := h (by rw [uvs_len]; exact h0)
  exact ⟨b, off, e, hlt, fun j hj => by rw [hc j (by rw [uvs_len]; exact hj), uvs_at hj]⟩
theorem Ul.nil {w : World} {A : Option Addr} : Ul w A [] := Vs.nil
theorem Ul.later {w w' : World} {A : Option Addr} {l : List W64} (h : Ul w A l) (hb : Below w.heap.size w w') : Ul w' A l := Vs.later h hb
theorem Ul.take {w : World} {A : Option Addr} {t : List W64} (h : Ul w A t) (n : Nat) : Ul w A (t.take n) := by
  unfold Ul; rw [uvs_take]; exact Vs.take h n
structure UP (w : World) (A : Option Addr) (ca : Nat) (l : List W64) : Prop where
  ul : Ul w A l
  le : l.length ≤ ca
  cap : ca ≤ 9223372036854775807
  none : A = none → ca = 0
theorem UP.later {w w' : World} {A : Option Addr} {ca : Nat} {l : List W64} (h : UP w A ca l) (hb : Below w.heap.size w w') : UP w' A ca l := ⟨h.ul.later hb, h.le, h.cap, h.none⟩
theorem info_u64 : (Try.prog.info? 22).map (fun i => (i.zero, i.size, i.bytes)) = some (some (.int .u64 0), 1, 8) := by kernel_rfl
theorem uvs_set (l : List W64) (i : Nat) (x : W64) : (uvs l).set i (.int .u64 (x.toNat : Int)) = uvs (l.set i x) := by
  show (l.map uv).set i (uv x) = (l.set i x).map uv
  rw [List.map_set]
theorem Bs.setU {T : Nat} {w : World} {g : Nat} {l : List W64} (h : Bs T w g (uvs l)) (i : Nat) (x : W64) : Bs T (w.setCell ⟨g, i, none⟩ (.int .u64 (x.toNat : Int))) g (uvs (l.set i x)) := by
  rw [← uvs_set]; exact h.set i _
theorem Bs.atU {T : Nat} {w : World} {g : Nat} {l : List W64} (h : Bs T w g (uvs l)) {i : Nat} (hi : i < l.length) : w.cell? ⟨g, i, none⟩ = some (.int .u64 ((l.getD i 0).toNat : Int)) := by
  rw [h.cell (by rw [uvs_len]; exact hi), uvs_at hi]
theorem Bs.up {w : World} {g : Nat} {l : List W64} (h : Bs 22 w g (uvs l)) (hl : l.length ≤ 9223372036854775807) : UP w (some ⟨g, 0, none⟩) l.length l :=
  ⟨h.vs, Nat.le_refl _, hl, fun h => by cases h⟩
theorem tail_up {A : Option Addr} {ca : Nat} {l : List W64} {w : World} (h : UP w A ca l) {c : Nat} (hc : c ≤ l.length) :
    ∃ A', (if ca = c then A else Option.map (fun x => x.add c) A) = A' ∧ UP w A' (ca - c) (l.drop c) := by
  have hle := h.le
  have hcap := h.cap
  refine ⟨_, rfl, ?_⟩
  by_cases e : ca = c
  · rw [if_pos e]
    have e2 : l.drop c = [] := List.drop_eq_nil_of_le (by omega)
    rw [e2]
    exact ⟨Ul.nil, by simp, by omega, fun _ => by omega⟩
  · rw [if_neg e]
    refine ⟨?_, by simp; omega, by omega, fun hn => ?_⟩
    · by_cases h0 : l.drop c = []
      · rw [h0]; exact Ul.nil
      · have hlt : c < l.length := by
          rcases Nat.lt_or_ge c l.length with h1 | h1
          · exact h1
          · exact absurd (List.drop_eq_nil_of_le h1) h0
        obtain ⟨b, off, rfl, _, _⟩ := h.ul.at (by omega)
        rw [Option.map_some, Addr.add_lit]
        unfold Ul
        rw [uvs_drop]
        exact Vs.drop h.ul c
    · cases A with
      | none => have := h.none rfl; omega
      | some a => simp at hn
def utup (R : Option Addr) (ca : Nat) (r : List W64 × Int) : Value := .tuple #[.slice R r.1.length ca, .int .i64 r.2]
def ULPost (w : World) (r : List W64 × Int) (e : Ending) (w' : World) : Prop := ∃ R ca, e = .returned (utup R ca r) ∧ UP w' R ca r.1 ∧ Below w.heap.size w w'
theorem ulpost_none {w w' : World} {e : Int} (h : Below w.heap.size w w') : ULPost w ([], e) (.returned (.tuple #[.slice none 0 0, .int .i64 e])) w' :=
  ⟨none, 0, rfl, ⟨Ul.nil, by simp, by omega, fun _ => rfl⟩, h⟩
theorem ulpost_bs {w w' : World} {g : Nat} {l : List W64} {e : Int} (hl : l.length ≤ 9223372036854775807) (hb : Bs 22 w' g (uvs l)) (h : Below w.heap.size w w') {n c : Nat} (hn : n = l.length) (hc : c = l.length) : ULPost w (l, e) (.returned (.tuple #[.slice (some ⟨g, 0, none⟩) n c, .int .i64 e])) w' :=
  ⟨some ⟨g, 0, none⟩, l.length, by subst hn hc; rfl, hb.up hl, h⟩
theorem bs_uzeros (w : World) (n : Nat) : Bs 22 (w.alloc (.cells (madeCells #[.int .u64 0] n) 22)) w.heap.size (uvs (List.replicate n 0)) := by
  have := Bs.made 22 w (.int .u64 0) n
  simpa [uvs, uv] using this
theorem up_lit (w : World) (l : List W64) (hl : l.length ≤ 1000) : UP (w.alloc (.cells (uvs l).toArray 22)) (some ⟨w.heap.size, 0, none⟩) l.length l :=
  ⟨Bs.vs (T := 22) (heap_alloc_new w _), Nat.le_refl _, by omega, fun h => by cases h⟩
/-- An integer slice of the call's own (its block is not below B) that reads as xs. -/
def OU (w : World) (B : Nat) (v : Value) (xs : List W64) : Prop := w.ownsRow B 22 1 v xs.length (uvs xs)
theorem OU.nil (w : World) (B : Nat) : OU w B (.slice none 0 0) [] := World.ownsRow_nil _ _ _ _
theorem OU.alloc {w : World} {B : Nat} {v : Value} {xs : List W64} (h : OU w B v xs) (o : Obj) : OU (w.alloc o) B v xs := World.ownsRow.alloc h o
theorem OU.drew {w : World} {B : Nat} {v : Value} {xs : List W64} (h : OU w B v xs) : OU w.drew B v xs := h
theorem OU.kept {w w' : World} {row : Option Nat} {B : Nat} {v : Value} {xs : List W64} (h : OU w B v xs) (hg : w.grownBy w' row) (hne : v.ownBlock = none ∨ v.ownBlock ≠ row) : OU w' B v xs := World.ownsRow.kept h hg hne
theorem OU.later {w w' : World} {B : Nat} {v : Value} {xs : List W64} (h : OU w B v xs) (hb : Below w.heap.size w w') : OU w' B v xs := by
  refine ⟨h.1, ?_⟩
  rcases h.2 with h | ⟨g, cap, cur, hv, hB, hg, h1, h2, h3, h4⟩
  · exact .inl h
  · exact .inr ⟨g, cap, cur, hv, hB, (hb.block g (lt_of_block hg)).trans hg, h1, h2, h3, h4⟩
/-- As a slice that reads as xs. -/
theorem OU.up {w : World} {B : Nat} {v : Value} {xs : List W64} (h : OU w B v xs) : ∃ (R : Option Addr) (cr : Nat), v = .slice R xs.length cr ∧ UP w R cr xs := by
  rcases h.2 with ⟨rfl, h0⟩ | ⟨g, cap, cur, rfl, _, hg, hc, hcm, _, _⟩
  · have : xs = [] := List.eq_nil_of_length_eq_zero (by omega)
    subst this
    exact ⟨none, 0, rfl, ⟨Ul.nil, by simp, by omega, fun _ => rfl⟩⟩
  · refine ⟨some ⟨g, 0, none⟩, cap, rfl, ⟨?_, by omega, by unfold maxLen at hcm; omega, fun h => by cases h⟩⟩
    intro h0
    refine ⟨g, 0, rfl, lt_of_block hg, fun j hj => ?_⟩
    rw [Nat.zero_add]
    exact World.ownsRow.cellAt h j (by rw [uvs_len] at hj; omega)
/-- .. whose cells are its own. -/
theorem OU.own {w : World} {B : Nat} {v : Value} {xs : List W64} (h : OU w B v xs) (h0 : 0 < xs.length) : ∃ (g cap : Nat) (cur : List Value), v = .slice (some ⟨g, 0, none⟩) xs.length cap ∧ B ≤ g ∧ Bs 22 w g cur ∧ cur.length = cap ∧ cap ≤ 9223372036854775807 ∧ cur.take xs.length = uvs xs := by
  rcases h.2 with ⟨rfl, h1⟩ | ⟨g, cap, cur, rfl, hB, hg, hc, hcm, hcs, ht⟩
  · omega
  · exact ⟨g, cap, cur.toList, rfl, hB, by simpa [Bs] using hg, by simpa using hcs, by unfold maxLen at hcm; omega, by simpa using ht⟩

theorem OU.set {w : World} {B g cap n : Nat} {xs : List W64} (h : OU w B (.slice (some ⟨g, 0, none⟩) n cap) xs) (i : Nat) (x : W64) : OU (w.setCell ⟨g, i, none⟩ (.int .u64 (x.toNat : Int))) B (.slice (some ⟨g, 0, none⟩) n cap) (xs.set i x) := by
  unfold OU
  rw [List.length_set, ← uvs_set]
  refine ⟨by rw [List.length_set]; exact h.1, .inr ?_⟩
  rcases h.2 with ⟨h1, _⟩ | ⟨g', cap', cur, e, hB, hg, h1, h2, h3, h4⟩
  · cases h1
  · cases e
    have hb : Bs 22 w g cur.toList := by simpa [Bs] using hg
    have hs : Bs 22 (w.setCell ⟨g, i, none⟩ (.int .u64 (x.toNat : Int))) g (cur.toList.set i (.int .u64 (x.toNat : Int))) := hb.set i (.int .u64 (x.toNat : Int))
    refine ⟨g, cap, (cur.toList.set i (.int .u64 (x.toNat : Int))).toArray, rfl, hB, hs, h1, h2, by simpa using h3, ?_⟩
    rw [List.take_set, h4]
theorem OU.at {w : World} {B g cap n : Nat} {xs : List W64} (h : OU w B (.slice (some ⟨g, 0, none⟩) n cap) xs) {i : Nat} (hi : i < xs.length) : w.cell? ⟨g, i, none⟩ = some (.int .u64 ((xs.getD i 0).toNat : Int)) := by
  rcases h.2 with ⟨h1, _⟩ | ⟨g', cap', cur, e, hB, hg, h1, h2, h3, h4⟩
  · cases h1
  · cases e
    rw [World.ownsRow.cellAt h i (by omega), uvs_at hi]
theorem OU.frozen {w : World} {B g cap n : Nat} {xs : List W64} (h : OU w B (.slice (some ⟨g, 0, none⟩) n cap) xs) (i : Nat) : w.frozen? ⟨g, i, none⟩ = false := by
  rcases h.2 with ⟨h1, _⟩ | ⟨g', cap', cur, e, hB, hg, h1, h2, h3, h4⟩
  · cases h1
  · cases e
    exact World.ownsRow.frozenAt h i
/-- Its cells, one by one: what stands there, and that each may be set. -/
theorem OU.form {w : World} {B n : Nat} {v : Value} {xs : List W64} (h : OU w B v xs) (hn : xs.length = n) (h0 : 0 < n) : ∃ g cap : Nat, v = .slice (some ⟨g, 0, none⟩) n cap ∧ B ≤ g ∧ g < w.heap.size ∧ n ≤ cap ∧ cap ≤ 9223372036854775807 ∧
    (∀ i, i < n → w.cell? ⟨g, i, none⟩ = some (.int .u64 ((xs.getD i 0).toNat : Int))) ∧ (∀ i, w.frozen? ⟨g, i, none⟩ = false) ∧ OU w B (.slice (some ⟨g, 0, none⟩) n cap) xs := by
  subst hn
  rcases h.2 with ⟨rfl, h1⟩ | ⟨g, cap, cur, rfl, hB, hg, hc, hcm, hcs, ht⟩
  · omega
  · refine ⟨g, cap, rfl, hB, lt_of_block hg, hc, by unfold maxLen at hcm; omega, fun i hi => ?_, fun i => World.ownsRow.frozenAt h i, h⟩
    rw [World.ownsRow.cellAt h i (by omega), uvs_at hi]

/-- 'out = append(out, y)'. -/
theorem wpList_pushU2 {w0 wr : World} {ops : Array Oper} {rest : List Oper} {o : Oper} {a : Act} {Q : Exit → Act → World → Prop} (hgd : o.guard = none) (s x : Operand)
    (ho : o.op = .call { callee := .builtin .append, args := #[s, x], argTypes := #[30, 30] }) (B B2 : Nat) (v : Value) (xs : List W64) (y : W64) (hs : a.eval s = v) (hown : OU wr B v xs)
    (hx : a.eval x = .slice (some ⟨wr.heap.size, 0, none⟩) 1 1) (hb : xs.length < 17592186044416) (hB : B ≤ wr.heap.size) (hB2 : B2 ≤ B) (hbel : Below B2 w0 wr)
    (h : ∀ g cap w', OU w' B (.slice (some ⟨g, 0, none⟩) (xs.length + 1) cap) (xs ++ [y]) → Below B2 w0 w' → (wr.alloc (.cells #[.int .u64 (y.toNat : Int)] 22)).grownBy w' v.ownBlock → wpList Try.prog ops Q rest (a.put o.dst (.slice (some ⟨g, 0, none⟩) (xs.length + 1) cap)) w') :
    wpList Try.prog ops Q (o :: rest) a (wr.alloc (.cells #[.int .u64 (y.toNat : Int)] 22)) := by
  obtain ⟨i0, hi0, hz0, hz1, hz2⟩ := info_parts info_u64
  refine wpList_append_lies _ hgd s x 30 ho B 22 i0 (.int .u64 0) 1 8 Try.underlying30 hi0 hz0 hz1 hz2 rfl (by decide) v xs.length (uvs xs) hs (World.ownsRow.alloc hown _) ⟨wr.heap.size, 0, none⟩ 1 1 [.int .u64 (y.toNat : Int)] hx rfl ?c1 ?c2 (by omega) ?c3 ?c4 ?c5 _ rfl ?_
  case c1 =>
    intro j u hj
    match j, hj with
    | 0, hj => simp at hj; subst hj; simp [Addr.add]
  case c2 => intro u hu; simp at hu; subst hu; rfl
  case c3 => simp only [maxLen]; omega
  case c4 => omega
  case c5 => simp; omega
  intro g cap w' h1 h2 _ _
  refine h g cap w' ?_ ?_ h2
  · unfold OU
    rw [uvs_append, List.length_append]
    exact h1
  · exact (hbel.alloc (Nat.le_trans hB2 hB) _).grown h2 (by simp; omega) (fun k hk => Nat.le_trans hB2 (World.ownsRow.lt hown k hk).1)
theorem wpList_pushU {w0 wr : World} {ops : Array Oper} {rest : List Oper} {o : Oper} {a : Act} {Q : Exit → Act → World → Prop} (hgd : o.guard = none) (s x : Operand)
    (ho : o.op = .call { callee := .builtin .append, args := #[s, x], argTypes := #[30, 30] }) (B : Nat) (v : Value) (xs : List W64) (y : W64) (hs : a.eval s = v) (hown : OU wr B v xs)
    (hx : a.eval x = .slice (some ⟨wr.heap.size, 0, none⟩) 1 1) (hb : xs.length < 17592186044416) (hB : B ≤ wr.heap.size) (hbel : Below B w0 wr)
    (h : ∀ g cap w', OU w' B (.slice (some ⟨g, 0, none⟩) (xs.length + 1) cap) (xs ++ [y]) → Below B w0 w' → (wr.alloc (.cells #[.int .u64 (y.toNat : Int)] 22)).grownBy w' v.ownBlock → wpList Try.prog ops Q rest (a.put o.dst (.slice (some ⟨g, 0, none⟩) (xs.length + 1) cap)) w') :
    wpList Try.prog ops Q (o :: rest) a (wr.alloc (.cells #[.int .u64 (y.toNat : Int)] 22)) := wpList_pushU2 hgd s x ho B B v xs y hs hown hx hb hB (Nat.le_refl _) hbel h
theorem OU.ge {w : World} {B : Nat} {v : Value} {xs : List W64} (h : OU w B v xs) {k : Nat} (hk : k < B) : v.ownBlock = none ∨ v.ownBlock ≠ some k := by
  cases e : v.ownBlock with
  | none => exact .inl rfl
  | some j => exact .inr (fun h2 => by injection h2 with h3; have := (World.ownsRow.lt h j e).1; omega)
theorem ulpost_ou {w w' : World} {B : Nat} {v : Value} {l : List W64} {e : Int} (h : OU w' B v l) (hb : Below w.heap.size w w') : ULPost w (l, e) (.returned (.tuple #[v, .int .i64 e])) w' := by
  obtain ⟨R, cr, rfl, hI⟩ := h.up
  exact ⟨R, cr, rfl, hI, hb⟩
theorem OU.low {w w' : World} {B C : Nat} {v : Value} {xs : List W64} (h : OU w B v xs) (hv : ∀ k, v.ownBlock = some k → k < C) (hb : Below C w w') : OU w' B v xs := by
  refine ⟨h.1, ?_⟩
  rcases h.2 with h | ⟨g, cap, cur, rfl, hB, hg, h1, h2, h3, h4⟩
  · exact .inl h
  · exact .inr ⟨g, cap, cur, rfl, hB, (hb.block g (hv g rfl)).trans hg, h1, h2, h3, h4⟩
theorem OU.setLow {w : World} {B : Nat} {v : Value} {xs : List W64} (h : OU w B v xs) {a : Addr} (ha : a.block < B) (u : Value) : OU (w.setCell a u) B v xs := by
  refine ⟨h.1, ?_⟩
  rcases h.2 with h | ⟨g, cap, cur, rfl, hB, hg, h1, h2, h3, h4⟩
  · exact .inl h
  · exact .inr ⟨g, cap, cur, rfl, hB, (Below.heap_setCell _ _ _ _ (by omega)).trans hg, h1, h2, h3, h4⟩
theorem OU.base {w : World} {B C : Nat} {v : Value} {xs : List W64} (h : OU w B v xs) (hC : C ≤ B) : OU w C v xs := by
  refine ⟨h.1, ?_⟩
  rcases h.2 with h | ⟨g, cap, cur, e, hB, r⟩
  · exact .inl h
  · exact .inr ⟨g, cap, cur, e, Nat.le_trans hC hB, r⟩
theorem OU.blk {w : World} {B : Nat} {v : Value} {xs : List W64} (h : OU w B v xs) : ∀ k, v.ownBlock = some k → k < w.heap.size := fun k hk => (World.ownsRow.lt h k hk).2
theorem OU.upv {w : World} {B n : Nat} {R : Option Addr} {cr : Nat} {xs : List W64} (h : OU w B (.slice R n cr) xs) (hn : xs.length = n) : UP w R cr xs := by
  obtain ⟨R', cr', e, hI⟩ := h.up
  injection e with e1 e2 e3
  subst e1 e3
  exact hI
def UOPost (w : World) (r : List W64 × Int) (e : Ending) (w' : World) : Prop := ∃ v, e = .returned (.tuple #[v, .int .i64 r.2]) ∧ OU w' w.heap.size v r.1 ∧ Below w.heap.size w w'
theorem uopost_none {w w' : World} {e : Int} (h : Below w.heap.size w w') : UOPost w ([], e) (.returned (.tuple #[.slice none 0 0, .int .i64 e])) w' := ⟨_, rfl, OU.nil _ _, h⟩
theorem uopost_ou {w w' : World} {v : Value} {l : List W64} {e : Int} (h : OU w' w.heap.size v l) (hb : Below w.heap.size w w') : UOPost w (l, e) (.returned (.tuple #[v, .int .i64 e])) w' := ⟨_, rfl, h, hb⟩
theorem UOPost.lp {w w' : World} {r : List W64 × Int} {e : Ending} (h : UOPost w r e w') : ULPost w r e w' := by
  obtain ⟨v, rfl, h1, h2⟩ := h
  exact ulpost_ou h1 h2
end Go.Proofs.Ytcfiigodefkncaa
