/- Slices of bits and of integers that are well formed, and t[c:]. -/
import Derived.Test.YtojoecoocbjgaaaTe
namespace Go.Proofs.Ytojoecoocbjgaaa
open Go.RowKit

/-- A slice of bits that is well formed and reads as t. -/
structure TP (w : World) (A : Option Addr) (ca : Nat) (t : List Bool) : Prop where
  tp : Tp w A t
  le : t.length ≤ ca
  cap : ca ≤ 9223372036854775807
  short : t.length ≤ 4611686018427387904
  none : A = none → ca = 0
theorem TP.later {w w' : World} {A : Option Addr} {ca : Nat} {t : List Bool} (h : TP w A ca t) (hb : Below w.heap.size w w') : TP w' A ca t := ⟨h.tp.later hb, h.le, h.cap, h.short, h.none⟩

theorem addr_add_zero (a : Addr) : a.add 0 = a := by simp [Addr.add]
/-- t[c:]. -/
theorem tail_tp {A : Option Addr} {ca : Nat} {t : List Bool} {w : World} (h : TP w A ca t) {c : Nat} (hc : c ≤ t.length) :
    ∃ A', (if ca = c then A else Option.map (fun x => x.add c) A) = A' ∧ TP w A' (ca - c) (t.drop c) := by
  have hle := h.le
  have hcap := h.cap
  have hsh := h.short
  refine ⟨_, rfl, ?_⟩
  by_cases e : ca = c
  · rw [if_pos e]
    have e2 : t.drop c = [] := List.drop_eq_nil_of_le (by omega)
    rw [e2]
    exact ⟨Tp.nil, by simp, by omega, by simp, fun _ => by omega⟩
  · rw [if_neg e]
    refine ⟨?_, by simp; omega, by omega, by simp; omega, fun hn => ?_⟩
    · by_cases h0 : t.drop c = []
      · rw [h0]; exact Tp.nil
      · have hlt : c < t.length := by
          rcases Nat.lt_or_ge c t.length with h1 | h1
          · exact h1
          · exact absurd (List.drop_eq_nil_of_le h1) h0
        obtain ⟨b, off, rfl, _, _⟩ := h.tp.at (by omega)
        rw [Option.map_some, Addr.add_lit]
        exact h.tp.drop c
    · cases A with
      | none => have := h.none rfl; omega
      | some a => simp at hn

/-- A slice of integers that is well formed and reads as l. -/
structure IP (w : World) (A : Option Addr) (ca : Nat) (l : List Int) : Prop where
  il : Il w A l
  le : l.length ≤ ca
  cap : ca ≤ 9223372036854775807
  none : A = none → ca = 0
theorem IP.later {w w' : World} {A : Option Addr} {ca : Nat} {l : List Int} (h : IP w A ca l) (hb : Below w.heap.size w w') : IP w' A ca l := ⟨h.il.later hb, h.le, h.cap, h.none⟩

theorem info_int : (Try.prog.info? 3).map (fun i => (i.zero, i.size, i.bytes)) = some (some (.int .i64 0), 1, 8) := by kernel_rfl
theorem info_bool : (Try.prog.info? 4).map (fun i => (i.zero, i.size, i.bytes)) = some (some (.bool false), 1, 1) := by kernel_rfl

/-- Three answers as a tuple. -/
def tup (r : Int × Int × Int) : Value := .tuple #[.int .i64 r.1, .int .i64 r.2.1, .int .i64 r.2.2]
def ftup (r : Bool × Int × Int) : Value := .tuple #[.bool r.1, .int .i64 r.2.1, .int .i64 r.2.2]
def ptup (r : Int × Int) : Value := .tuple #[.int .i64 r.1, .int .i64 r.2]
end Go.Proofs.Ytojoecoocbjgaaa
