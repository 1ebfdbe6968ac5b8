/- Reservoirs: the mathematics of package pool. -/
import Derived.Test.YtjhcbjpbmbjgoaaTe
namespace Go.Proofs.Ytjhcbjpbmbjgoaa

/-- A valid reservoir. -/
def PR (r c : Int) (xs : List Int) : Prop := (1 ≤ r ∧ r ≤ 400) ∧ 0 ≤ c ∧ c ≤ 1099511627776 ∧ (xs.length : Int) = min r c
instance (r c : Int) (xs : List Int) : Decidable (PR r c xs) := by unfold PR; infer_instance
/-- A reservoir and an error. -/
abbrev Res := (Int × Int × List Int) × Int
def pz : Int × Int × List Int := (0, 0, [])
/-- The sample behind one element more. -/
def nx (r : Int) (xs : List Int) (x d : Int) : List Int := if (xs.length : Int) < r then xs ++ [x] else if d < r then xs.set d.toNat x else xs
def putR (r c : Int) (xs : List Int) (x d : Int) : Res := if c = 1099511627776 then (pz, 4) else if d < 0 ∨ c < d then (pz, 2) else ((r, c + 1, nx r xs x d), 0)
def addR (r c : Int) (xs : List Int) (x d : Int) : Res := if PR r c xs then putR r c xs x d else (pz, 1)
/-- A whole stream from here on. -/
def goR (r : Int) : Int → List Int → List Int → List Int → Res
  | c, xs, x :: l, d :: ds => if c = 1099511627776 then (pz, 4) else if d < 0 ∨ c < d then (pz, 2) else goR r (c + 1) (nx r xs x d) l ds
  | c, xs, _, _ => ((r, c, xs), 0)
def allR (r : Int) (l ds : List Int) : Res := if r < 1 ∨ 400 < r then (pz, 2) else if l.length ≠ ds.length then (pz, 1) else goR r 0 [] l ds
/-- One out after the other. -/
def outR (room c : Int) : List Int → List Int → Res
  | xs, [] => if (xs.length : Int) ≤ room then ((room, c, xs), 0) else (pz, 7)
  | xs, d :: ds => if (xs.length : Int) ≤ room then ((room, c, xs), 0) else if d < 0 ∨ (xs.length : Int) ≤ d then (pz, 2) else outR room c (xs.eraseIdx d.toNat) ds
def lessR (r c : Int) (xs : List Int) (room : Int) (ds : List Int) : Res := if PR r c xs then (if room < 1 ∨ r < room then (pz, 2) else outR room c xs ds) else (pz, 1)

theorem putR_full {r c : Int} {xs : List Int} {x d : Int} (h : c = 1099511627776) : putR r c xs x d = (pz, 4) := if_pos h
theorem putR_bad {r c : Int} {xs : List Int} {x d : Int} (h : c ≠ 1099511627776) (h2 : d < 0 ∨ c < d) : putR r c xs x d = (pz, 2) := by unfold putR; rw [if_neg h, if_pos h2]
theorem putR_ok {r c : Int} {xs : List Int} {x d : Int} (h : c ≠ 1099511627776) (h0 : 0 ≤ d) (h1 : d ≤ c) : putR r c xs x d = ((r, c + 1, nx r xs x d), 0) := by unfold putR; rw [if_neg h, if_neg (by omega)]
theorem nx_room {r : Int} {xs : List Int} {x d : Int} (h : (xs.length : Int) < r) : nx r xs x d = xs ++ [x] := if_pos h
theorem nx_set {r : Int} {xs : List Int} {x d : Int} (h : ¬ (xs.length : Int) < r) (h2 : d < r) : nx r xs x d = xs.set d.toNat x := by unfold nx; rw [if_neg h, if_pos h2]
theorem nx_stay {r : Int} {xs : List Int} {x d : Int} (h : ¬ (xs.length : Int) < r) (h2 : ¬ d < r) : nx r xs x d = xs := by unfold nx; rw [if_neg h, if_neg h2]
theorem nx_len {r : Int} {xs : List Int} {x d : Int} : (nx r xs x d).length = if (xs.length : Int) < r then xs.length + 1 else xs.length := by
  unfold nx
  by_cases h : (xs.length : Int) < r
  · rw [if_pos h, if_pos h]; simp
  · rw [if_neg h, if_neg h]
    by_cases h2 : d < r
    · rw [if_pos h2]; simp
    · rw [if_neg h2]
theorem pr_len {r c : Int} {xs : List Int} (h : PR r c xs) : xs.length ≤ 400 := by
  obtain ⟨h1, h2, h3, h4⟩ := h
  omega
theorem pr_nx {r c : Int} {xs : List Int} {x d : Int} (h : PR r c xs) (hc : c ≠ 1099511627776) : PR r (c + 1) (nx r xs x d) := by
  obtain ⟨h1, h2, h3, h4⟩ := h
  refine ⟨h1, by omega, by omega, ?_⟩
  rw [nx_len]
  split <;> omega
theorem pr_new {r : Int} (h1 : 1 ≤ r) (h2 : r ≤ 400) : PR r 0 [] := ⟨⟨h1, h2⟩, by omega, by omega, by simp; omega⟩

theorem goR_nil {r c : Int} {xs ds : List Int} : goR r c xs [] ds = ((r, c, xs), 0) := by cases ds <;> rfl
theorem drop_cons {l : List Int} {k : Nat} (h : k < l.length) : l.drop k = l.getD k 0 :: l.drop (k + 1) := by
  rw [List.drop_eq_getElem_cons h]
  simp [List.getD_eq_getElem?_getD, h]
theorem goR_at {r c : Int} {xs l ds : List Int} {k : Nat} (h : k < l.length) (h2 : k < ds.length) : goR r c xs (l.drop k) (ds.drop k) =
    if c = 1099511627776 then (pz, 4) else if ds.getD k 0 < 0 ∨ c < ds.getD k 0 then (pz, 2) else goR r (c + 1) (nx r xs (l.getD k 0) (ds.getD k 0)) (l.drop (k + 1)) (ds.drop (k + 1)) := by
  rw [drop_cons h, drop_cons h2]; rfl
theorem outR_end {room c : Int} {xs ds : List Int} (h : (xs.length : Int) ≤ room) : outR room c xs ds = ((room, c, xs), 0) := by cases ds <;> rw [outR, if_pos h]
theorem outR_none {room c : Int} {xs : List Int} (h : ¬ (xs.length : Int) ≤ room) : outR room c xs [] = (pz, 7) := by rw [outR, if_neg h]
theorem outR_at {room c : Int} {xs ds : List Int} {k : Nat} (h : ¬ (xs.length : Int) ≤ room) (hk : k < ds.length) : outR room c xs (ds.drop k) =
    if ds.getD k 0 < 0 ∨ (xs.length : Int) ≤ ds.getD k 0 then (pz, 2) else outR room c (xs.eraseIdx (ds.getD k 0).toNat) (ds.drop (k + 1)) := by
  rw [drop_cons hk, outR, if_neg h]
end Go.Proofs.Ytjhcbjpbmbjgoaa
