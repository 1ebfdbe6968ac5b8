/- Dealing: changing places. -/
import Derived.Test.YtkcgcojhgcfgmaaPn
namespace Go.Proofs.Ytkcgcojhgcfgmaa

def swp (l : List Int) (i j : Nat) : List Int := (l.set i (l.getD j 0)).set j (l.getD i 0)
theorem swp_len (l : List Int) (i j : Nat) : (swp l i j).length = l.length := by simp [swp]
theorem swp_comm {l : List Int} {i j : Nat} (hi : i < l.length) (hj : j < l.length) : swp l i j = (l.set j (l.getD i 0)).set i (l.getD j 0) := by
  unfold swp
  by_cases h : i = j
  · subst h; rfl
  · rw [List.set_comm _ _ h]
def cl (n j : Nat) : Nat := min j (n - 1)
theorem cl_lt {n j : Nat} (h : j < n) : cl n j = j := by unfold cl; omega
theorem cl_in {n j : Nat} (h : 0 < n) : cl n j < n := by unfold cl; omega
/-- The first m places from the last on. -/
def downTo (n m : Nat) : List Nat := (List.range m).map fun t => n - 1 - t
theorem downTo_succ (n m : Nat) : downTo n (m + 1) = downTo n m ++ [n - 1 - m] := by simp [downTo, List.range_succ]
theorem downTo_len (n m : Nat) : (downTo n m).length = m := by simp [downTo]
def stp (ds : List Int) (l : List Int) (j : Nat) : List Int := swp l (cl ds.length j) (ds.getD (cl ds.length j) 0).toNat
def dls (ds : List Int) (js : List Nat) : List Int := js.foldl (stp ds) (idn ds.length)
theorem dls_snoc (ds : List Int) (js : List Nat) (j : Nat) : dls ds (js ++ [j]) = stp ds (dls ds js) j := by simp [dls]
theorem dls_len (ds : List Int) (js : List Nat) : (dls ds js).length = ds.length := by
  unfold dls
  have : ∀ (js : List Nat) (l : List Int), (js.foldl (stp ds) l).length = l.length := by
    intro js
    induction js with
    | nil => intro l; rfl
    | cons j js ih => intro l; rw [List.foldl_cons, ih, stp, swp_len]
  rw [this, idn_len]
def okD (ds : List Int) : Prop := ds.length ≤ 20 ∧ ∀ k, k < ds.length → 0 ≤ ds.getD k 0 ∧ ds.getD k 0 ≤ (k : Int)
instance (ds : List Int) : Decidable (okD ds) := by unfold okD; infer_instance
def dealt (ds : List Int) : List Int := dls ds (downTo ds.length ds.length)
def dealR (ds : List Int) : List Int × Int := if okD ds then (dealt ds, 0) else ([], 2)
theorem okD_at {ds : List Int} (h : okD ds) {k : Nat} (hk : k < ds.length) : ∃ e : Nat, ds.getD k 0 = (e : Int) ∧ e ≤ k := by
  have := h.2 k hk
  exact ⟨(ds.getD k 0).toNat, by omega, by omega⟩
end Go.Proofs.Ytkcgcojhgcfgmaa
