/- Slices of integers: cells, l[c:], a list and an error as a tuple, new lists. -/
import Derived.Test.YtojoecoocbjgaaaTv
import Derived.Test.YtojoecoocbjgaaaBb
import Derived.Deep.OwnRows
namespace Go.Proofs.Ytojoecoocbjgaaa
open Go.RowKit Go.Deep

theorem bvs_set (l : List Bool) (i : Nat) (b : Bool) : (bvs l).set i (.bool b) = bvs (l.set i b) := by
  unfold bvs; rw [← List.map_set (f := Value.bool)]
theorem ivs_set (l : List Int) (i : Nat) (x : Int) : (ivs l).set i (.int .i64 x) = ivs (l.set i x) := by
  unfold ivs; rw [← List.map_set (f := Value.int .i64)]
theorem Bs.setI {T : Nat} {w : World} {g : Nat} {l : List Int} (h : Bs T w g (ivs l)) (i : Nat) (x : Int) : Bs T (w.setCell ⟨g, i, none⟩ (.int .i64 x)) g (ivs (l.set i x)) := by
  rw [← ivs_set]; exact h.set i _
theorem Bs.atI {T : Nat} {w : World} {g : Nat} {l : List Int} (h : Bs T w g (ivs l)) {i : Nat} (hi : i < l.length) : w.cell? ⟨g, i, none⟩ = some (.int .i64 (l.getD i 0)) := by
  rw [h.cell (by rw [ivs_len]; exact hi), ivs_at hi]
theorem Bs.ip {w : World} {g : Nat} {l : List Int} (h : Bs 3 w g (ivs l)) (hl : l.length ≤ 9223372036854775807) : IP w (some ⟨g, 0, none⟩) l.length l :=
  ⟨h.vs, Nat.le_refl _, hl, fun h => by cases h⟩

/-- l[c:]. -/
theorem tail_ip {A : Option Addr} {ca : Nat} {l : List Int} {w : World} (h : IP w A ca l) {c : Nat} (hc : c ≤ l.length) :
    ∃ A', (if ca = c then A else Option.map (fun x => x.add c) A) = A' ∧ IP w A' (ca - c) (l.drop c) := by
  have hle := h.le
  have hcap := h.cap
  refine ⟨_, rfl, ?_⟩
  by_cases e : ca = c
  · rw [if_pos e]
    have e2 : l.drop c = [] := List.drop_eq_nil_of_le (by omega)
    rw [e2]
    exact ⟨Il.nil, by simp, by omega, fun _ => by omega⟩
  · rw [if_neg e]
    refine ⟨?_, by simp; omega, by omega, fun hn => ?_⟩
    · by_cases h0 : l.drop c = []
      · rw [h0]; exact Il.nil
      · have hlt : c < l.length := by
          rcases Nat.lt_or_ge c l.length with h1 | h1
          · exact h1
          · exact absurd (List.drop_eq_nil_of_le h1) h0
        obtain ⟨b, off, rfl, _, _⟩ := h.il.at (by omega)
        rw [Option.map_some, Addr.add_lit]
        unfold Il
        rw [ivs_drop]
        exact Vs.drop h.il c
    · cases A with
      | none => have := h.none rfl; omega
      | some a => simp at hn

/-- A list and an error as a tuple: where the list lies at R. -/
def ltup (R : Option Addr) (ca : Nat) (r : List Int × Int) : Value := .tuple #[.slice R r.1.length ca, .int .i64 r.2]
def LPost (w : World) (r : List Int × Int) (e : Ending) (w' : World) : Prop := ∃ R ca, e = .returned (ltup R ca r) ∧ IP w' R ca r.1 ∧ Below w.heap.size w w'
theorem lpost_none {w w' : World} {e : Int} (h : Below w.heap.size w w') : LPost w ([], e) (.returned (.tuple #[.slice none 0 0, .int .i64 e])) w' :=
  ⟨none, 0, rfl, ⟨Il.nil, by simp, by omega, fun _ => rfl⟩, h⟩
theorem lpost_bs {w w' : World} {g : Nat} {l : List Int} {e : Int} (hl : l.length ≤ 9223372036854775807) (hb : Bs 3 w' g (ivs l)) (h : Below w.heap.size w w') {n c : Nat} (hn : n = l.length) (hc : c = l.length) : LPost w (l, e) (.returned (.tuple #[.slice (some ⟨g, 0, none⟩) n c, .int .i64 e])) w' :=
  ⟨some ⟨g, 0, none⟩, l.length, by subst hn hc; rfl, hb.ip hl, h⟩

/-- A new list of zeros. -/
theorem bs_zeros (w : World) (n : Nat) : Bs 3 (w.alloc (.cells (madeCells #[.int .i64 0] n) 3)) w.heap.size (ivs (List.replicate n 0)) := by
  have := Bs.made 3 w (.int .i64 0) n
  simpa [ivs] using this
theorem notB {b : Bool} (h : b = true) : (!b) = false := by rw [h]; rfl

/-- A list that stands in the code. -/
theorem ip_lit (w : World) (l : List Int) (hl : l.length ≤ 1000) : IP (w.alloc (.cells (ivs l).toArray 3)) (some ⟨w.heap.size, 0, none⟩) l.length l :=
  ⟨Bs.vs (T := 3) (heap_alloc_new w _), Nat.le_refl _, by omega, fun h => by cases h⟩
end Go.Proofs.Ytojoecoocbjgaaa
