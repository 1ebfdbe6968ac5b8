/- Merging over all choices: counted by the kernel. -/
import Derived.Test.YtjhcbjpbmbjgoaaMj
namespace Go.Proofs.Ytjhcbjpbmbjgoaa

def allJ (f : Nat → Nat → Nat → Bool) : Bool := (List.range 2).all fun r => (List.range 6).all fun n => (List.range 6).all fun m => if n + m ≤ 5 ∧ r + 1 ≤ n + m then f (r + 1) n m else true
theorem allJ_at {f : Nat → Nat → Nat → Bool} (h : allJ f = true) {R n m : Nat} (h1 : 1 ≤ R) (h2 : R ≤ 2) (h3 : n + m ≤ 5) (h4 : R ≤ n + m) : f R n m = true := by
  have h := List.all_eq_true.1 h (R - 1) (List.mem_range.2 (by omega))
  have h := List.all_eq_true.1 h n (List.mem_range.2 (by omega))
  have h := List.all_eq_true.1 h m (List.mem_range.2 (by omega))
  rw [if_pos (by omega), show R - 1 + 1 = R by omega] at h
  exact h
theorem chkC_all : allJ chkC = true := by decide +kernel
theorem chkA_all : allJ chkA = true := by decide +kernel
end Go.Proofs.Ytjhcbjpbmbjgoaa
