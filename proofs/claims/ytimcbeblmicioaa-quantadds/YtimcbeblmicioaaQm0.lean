/- quant: summaries in memory. -/
import Derived.Test.YtimcbeblmicioaaQz3
import Derived.Test.YtimcbeblmicioaaIv
import Derived.Deep.OwnRows
import Derived.Laws.AppendOwn
import Derived.Laws.OwnMore
import Derived.Deep.AppendLies
import Derived.OneCell
namespace Go.Proofs.Ytimcbeblmicioaa
open Go.RowKit Go.Deep

def rk0 : Rk := ⟨0, 0, 0⟩
def rat (S : List Rk) (i : Nat) : Rk := S.getD i rk0
/-- An entry's value. -/
def rkv (r : Rk) : Value := .agg #[.int .i64 r.n, .int .i64 r.g, .int .i64 r.m]
/-- The cells of a summary. -/
def rvs : List Rk → List Value
  | [] => []
  | r :: l => .int .i64 r.n :: .int .i64 r.g :: .int .i64 r.m :: rvs l
theorem rvs_len (S : List Rk) : (rvs S).length = S.length * 3 := by
  induction S with
  | nil => rfl
  | cons e r ih => simp only [rvs, List.length_cons, ih]; omega
theorem rvs_at : ∀ {S : List Rk} {i : Nat}, i < S.length → (rvs S)[i * 3]? = some (.int .i64 (rat S i).n) ∧ (rvs S)[i * 3 + 1]? = some (.int .i64 (rat S i).g) ∧ (rvs S)[i * 3 + 2]? = some (.int .i64 (rat S i).m)
  | [], i, h => by simp at h
  | e :: r, 0, h => by simp [rvs, rat]
  | e :: r, i + 1, h => by
    have := rvs_at (S := r) (i := i) (by simpa using h)
    have e3 : ∀ j, (rvs (e :: r))[(i + 1) * 3 + j]? = (rvs r)[i * 3 + j]? := fun j => by
      rw [show (i + 1) * 3 + j = i * 3 + j + 1 + 1 + 1 by omega, rvs]
      simp only [List.getElem?_cons_succ]
    have e0 := e3 0
    simp only [Nat.add_zero] at e0
    rw [e0, e3 1, e3 2]
    exact this
theorem rvs_app (A B : List Rk) : rvs (A ++ B) = rvs A ++ rvs B := by
  induction A with
  | nil => rfl
  | cons e r ih => simp only [List.cons_append, rvs, ih]
theorem rvs_setg : ∀ {S : List Rk} {i : Nat} (x : Int), i < S.length → (rvs S).set (i * 3 + 1) (.int .i64 x) = rvs (S.set i ⟨(rat S i).n, x, (rat S i).m⟩)
  | [], i, x, h => by simp at h
  | e :: r, 0, x, h => by simp [rvs, rat]
  | e :: r, i + 1, x, h => by
    have := rvs_setg (S := r) (i := i) x (by simpa using h)
    rw [show (i + 1) * 3 + 1 = i * 3 + 1 + 1 + 1 + 1 by omega, rvs, List.set_cons_succ, List.set_cons_succ, List.set_cons_succ, this]
    rfl
theorem rvs_setm : ∀ {S : List Rk} {i : Nat} (x : Int), i < S.length → (rvs S).set (i * 3 + 2) (.int .i64 x) = rvs (S.set i ⟨(rat S i).n, (rat S i).g, x⟩)
  | [], i, x, h => by simp at h
  | e :: r, 0, x, h => by simp [rvs, rat]
  | e :: r, i + 1, x, h => by
    have := rvs_setm (S := r) (i := i) x (by simpa using h)
    rw [show (i + 1) * 3 + 2 = i * 3 + 2 + 1 + 1 + 1 by omega, rvs, List.set_cons_succ, List.set_cons_succ, List.set_cons_succ, this]
    rfl
theorem rvs_set : ∀ {S : List Rk} {i : Nat} (y : Rk), i < S.length → (((rvs S).set (i * 3) (.int .i64 y.n)).set (i * 3 + 1) (.int .i64 y.g)).set (i * 3 + 2) (.int .i64 y.m) = rvs (S.set i y)
  | [], i, y, h => by simp at h
  | e :: r, 0, y, h => by simp [rvs]
  | e :: r, i + 1, y, h => by
    have := rvs_set (S := r) (i := i) y (by simpa using h)
    rw [show (i + 1) * 3 + 2 = i * 3 + 2 + 1 + 1 + 1 by omega, show (i + 1) * 3 + 1 = i * 3 + 1 + 1 + 1 + 1 by omega, show (i + 1) * 3 = i * 3 + 1 + 1 + 1 by omega, rvs]
    simp only [List.set_cons_succ]
    rw [this]
    rfl
theorem rat_mem {S : List Rk} {i : Nat} (h : i < S.length) : rat S i ∈ S := by
  unfold rat
  rw [List.getD_eq_getElem?_getD, List.getElem?_eq_getElem h]
  exact List.getElem_mem h
theorem rat_take {S : List Rk} {k : Nat} (h : k < S.length) : S.take (k + 1) = S.take k ++ [rat S k] := by
  rw [List.take_succ_eq_append_getElem h]
  unfold rat
  simp [List.getD_eq_getElem?_getD, h]
theorem qtot_take {S : List Rk} {k : Nat} (h : k < S.length) : qtot (S.take (k + 1)) = qtot (S.take k) + (rat S k).g := by
  rw [rat_take h, qtot_app]; simp [qtot]
theorem qtot_nonneg : ∀ {S : List Rk}, (∀ r ∈ S, 0 ≤ r.g) → 0 ≤ qtot S
  | [], _ => Int.le_refl _
  | r :: S, h => by
    have := qtot_nonneg (S := S) (fun y hy => h y (List.mem_cons_of_mem _ hy))
    have := h r (List.mem_cons_self ..)
    simp only [qtot]; omega
theorem qtot_take_le {S : List Rk} (h : ∀ r ∈ S, 0 ≤ r.g) (k : Nat) : 0 ≤ qtot (S.take k) ∧ qtot (S.take k) ≤ qtot S := by
  have h1 := qtot_nonneg (S := S.take k) (fun r hr => h r (List.mem_of_mem_take hr))
  have h2 := qtot_nonneg (S := S.drop k) (fun r hr => h r (List.mem_of_mem_drop hr))
  have h3 := qtot_app (S.take k) (S.drop k)
  rw [List.take_append_drop] at h3
  omega

/-- A slice of entries that is well formed and reads as S. -/
structure RP (w : World) (A : Option Addr) (ca : Nat) (S : List Rk) : Prop where
  il : 0 < S.length → ∃ b off : Nat, A = some ⟨b, off, none⟩ ∧ b < w.heap.size ∧ ∀ i, i < S.length → w.cell? ⟨b, off + i * 3, none⟩ = some (.int .i64 (rat S i).n) ∧ w.cell? ⟨b, off + i * 3 + 1, none⟩ = some (.int .i64 (rat S i).g) ∧ w.cell? ⟨b, off + i * 3 + 2, none⟩ = some (.int .i64 (rat S i).m)
  le : S.length ≤ ca
  cap : ca ≤ 9223372036854775807
  none : A = none → ca = 0
theorem RP.keep {w w' : World} {A : Option Addr} {ca : Nat} {S : List Rk} (h : RP w A ca S) (hs : w.heap.size ≤ w'.heap.size) (hk : ∀ b o, b < w.heap.size → w'.cell? ⟨b, o, Option.none⟩ = w.cell? ⟨b, o, Option.none⟩) : RP w' A ca S :=
  ⟨fun h0 => by
    obtain ⟨b, off, e, hb2, hc⟩ := h.il h0
    exact ⟨b, off, e, by omega, fun i hi => ⟨(hk b _ hb2).trans (hc i hi).1, (hk b _ hb2).trans (hc i hi).2.1, (hk b _ hb2).trans (hc i hi).2.2⟩⟩, h.le, h.cap, h.none⟩
theorem RP.later {w w' : World} {A : Option Addr} {ca : Nat} {S : List Rk} (h : RP w A ca S) (hb : Below w.heap.size w w') : RP w' A ca S :=
  h.keep hb.size fun b o h2 => hb.cell (p := ⟨b, o, Option.none⟩) h2
theorem RP.nil (w : World) : RP w Option.none 0 [] := ⟨fun h => by simp at h, by simp, by omega, fun _ => rfl⟩
/-- A slice of entries of the call's own. -/
def OR (w : World) (B : Nat) (v : Value) (S : List Rk) : Prop := w.ownsRow B 33 3 v S.length (rvs S)
theorem OR.nil (w : World) (B : Nat) : OR w B (.slice none 0 0) [] := World.ownsRow_nil _ _ _ _
theorem OR.later {w w' : World} {B : Nat} {v : Value} {S : List Rk} (h : OR w B v S) (hb : Below w.heap.size w w') : OR w' B v S := by
  refine ⟨h.1, ?_⟩
  rcases h.2 with h | ⟨g, cap, cur, hv, hB, hg, h1, h2, h3, h4⟩
  · exact .inl h
  · exact .inr ⟨g, cap, cur, hv, hB, (hb.block g (lt_of_block hg)).trans hg, h1, h2, h3, h4⟩
theorem OR.lower {w : World} {B B' : Nat} {v : Value} {S : List Rk} (h : OR w B v S) (hb : B' ≤ B) : OR w B' v S := by
  refine ⟨h.1, ?_⟩
  rcases h.2 with h | ⟨g, cap, cur, hv, hB, hg, h1, h2, h3, h4⟩
  · exact .inl h
  · exact .inr ⟨g, cap, cur, hv, by omega, hg, h1, h2, h3, h4⟩
theorem OR.rp {w : World} {B : Nat} {v : Value} {S : List Rk} (h : OR w B v S) : ∃ R cap, v = .slice R S.length cap ∧ RP w R cap S := by
  rcases h.2 with ⟨rfl, h0⟩ | ⟨g, cap, cur, rfl, hB, hg, h1, h2, h3, h4⟩
  · have : S = [] := List.eq_nil_of_length_eq_zero h0
    subst this
    exact ⟨none, 0, rfl, RP.nil w⟩
  · refine ⟨some ⟨g, 0, none⟩, cap, rfl, ⟨fun h0 => ⟨g, 0, rfl, lt_of_block hg, fun i hi => ?_⟩, h1, by unfold maxLen at h2; omega, fun h => by cases h⟩⟩
    rw [Nat.zero_add, World.ownsRow.cellAt h (i * 3) (by omega), World.ownsRow.cellAt h (i * 3 + 1) (by omega), World.ownsRow.cellAt h (i * 3 + 2) (by omega)]
    exact rvs_at hi
theorem info_rank : (Try.prog.info? 33).map (fun i => (i.zero, i.size, i.bytes)) = some (some (.agg #[.int .i64 0, .int .i64 0, .int .i64 0]), 3, 24) := by kernel_rfl
/-- Entries and an error: the slice is nil where there is an error. -/
def RPost (w : World) (r : List Rk × Int) (e : Ending) (w' : World) : Prop := ∃ R cr, e = .returned (.tuple #[.slice R r.1.length cr, .int .i64 r.2]) ∧ RP w' R cr r.1 ∧ Below w.heap.size w w'
end Go.Proofs.Ytimcbeblmicioaa
