/- Reservoirs over all choices: counted by the kernel. -/
import Derived.Test.YtjhcbjpbmbjgoaaMa6
namespace Go.Proofs.Ytjhcbjpbmbjgoaa

def okE (room n : Nat) : Bool :=
  let S := seenN room n (fc n)
  let D := dd S
  D.length == wn n room && D.all (fun s => S.count s * wn n room == fc n)
theorem okE_all : ((List.range 7).all fun n => (List.range n).all fun r => okE (r + 1) n) = true := by decide +kernel
theorem okE_at {room n : Nat} (h1 : 1 ≤ room) (h2 : room ≤ n) (h3 : n ≤ 6) : okE room n = true := by
  have h := List.all_eq_true.1 okE_all n (List.mem_range.2 (by omega))
  have h := List.all_eq_true.1 h (room - 1) (List.mem_range.2 (by omega))
  rwa [show room - 1 + 1 = room by omega] at h
theorem even_len {room n : Nat} (h1 : 1 ≤ room) (h2 : room ≤ n) (h3 : n ≤ 6) : (dd (seenN room n (fc n))).length = wn n room := by
  have h := okE_at h1 h2 h3
  simp only [okE, Bool.and_eq_true, beq_iff_eq] at h
  exact h.1
theorem even_at {room n s : Nat} (h1 : 1 ≤ room) (h2 : room ≤ n) (h3 : n ≤ 6) (hs : s ∈ seenN room n (fc n)) : (seenN room n (fc n)).count s * wn n room = fc n := by
  have h := okE_at h1 h2 h3
  simp only [okE, Bool.and_eq_true, beq_iff_eq, List.all_eq_true] at h
  exact h.2 s ((mem_dd _).2 hs)
theorem or_all : ((List.range 64).all fun a => (List.range 64).all fun b => bits .or .i64 (a : Int) (b : Int) == ((a ||| b : Nat) : Int)) = true := by decide +kernel
theorem or_small {a b : Nat} (ha : a < 64) (hb : b < 64) : bits .or .i64 (a : Int) (b : Int) = ((a ||| b : Nat) : Int) := by
  have h := List.all_eq_true.1 or_all a (List.mem_range.2 ha)
  have h := List.all_eq_true.1 h b (List.mem_range.2 hb)
  exact eq_of_beq h
end Go.Proofs.Ytjhcbjpbmbjgoaa
