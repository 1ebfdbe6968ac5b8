/- Reservoirs over all choices: the mathematics. -/
import Derived.Test.YtjhcbjpbmbjgoaaZa
import Derived.Test.YtjhcbjpbmbjgoaaMc
namespace Go.Proofs.Ytjhcbjpbmbjgoaa

def inN (l : List Nat) : List Int := l.map (fun x : Nat => (x : Int))
theorem inN_len (l : List Nat) : (inN l).length = l.length := by simp [inN]
theorem inN_at {l : List Nat} {k : Nat} : (inN l).getD k 0 = ((l.getD k 0 : Nat) : Int) := by
  simp only [inN, List.getD_eq_getElem?_getD, List.getElem?_map]
  cases l[k]? <;> simp
theorem inN_append (a b : List Nat) : inN (a ++ b) = inN a ++ inN b := by simp [inN]
/-- The digits of x by these bases. -/
def mixN : Nat → List Nat → List Nat
  | _, [] => []
  | x, b :: r => x % b :: mixN (x / b) r
theorem mixN_len : ∀ (bs : List Nat) (x : Nat), (mixN x bs).length = bs.length
  | [], _ => rfl
  | b :: r, x => by simp [mixN, mixN_len r]
def nxN (room : Nat) (xs : List Nat) (x d : Nat) : List Nat := if xs.length < room then xs ++ [x] else if d < room then xs.set d x else xs
def goN (room : Nat) : List Nat → List Nat → List Nat → List Nat
  | xs, x :: l, d :: ds => goN room (nxN room xs x d) l ds
  | xs, _, _ => xs
theorem inN_set (xs : List Nat) (i x : Nat) : inN (xs.set i x) = (inN xs).set i (x : Int) := by simp [inN, List.map_set]
theorem nx_inN (room : Nat) (xs : List Nat) (x d : Nat) : nx (room : Int) (inN xs) (x : Int) (d : Int) = inN (nxN room xs x d) := by
  unfold nx nxN
  rw [inN_len]
  by_cases h : xs.length < room
  · rw [if_pos (by omega), if_pos h, inN_append]; rfl
  · rw [if_neg (by omega), if_neg h]
    by_cases h2 : d < room
    · rw [if_pos (by omega), if_pos h2, inN_set, Int.toNat_natCast]
    · rw [if_neg (by omega), if_neg h2]
/-- Each choice is in its range. -/
def okN : Nat → List Nat → Prop
  | _, [] => True
  | c, d :: ds => d ≤ c ∧ okN (c + 1) ds
theorem goR_inN (room : Nat) : ∀ (l ds : List Nat) (c : Nat) (xs : List Nat), l.length = ds.length → okN c ds → c + l.length ≤ 1000 → goR room c (inN xs) (inN l) (inN ds) = (((room : Int), ((c + l.length : Nat) : Int), inN (goN room xs l ds)), 0)
  | [], [], c, xs, _, _, _ => by simp [inN, goR, goN]
  | x :: l, d :: ds, c, xs, h, hok, hc => by
    simp only [List.length_cons] at hc h
    have e1 : inN (x :: l) = (x : Int) :: inN l := rfl
    have e2 : inN (d :: ds) = (d : Int) :: inN ds := rfl
    have e3 : (c : Int) + 1 = ((c + 1 : Nat) : Int) := by omega
    rw [e1, e2, goR, if_neg (by omega), if_neg (by have := hok.1; omega), nx_inN, e3, goR_inN room l ds (c + 1) _ (by omega) hok.2 (by omega)]
    simp only [goN, List.length_cons]
    rw [show c + 1 + l.length = c + (l.length + 1) by omega]
  | [], _ :: _, _, _, h, _, _ => by simp at h
  | _ :: _, [], _, _, h, _, _ => by simp at h
/-- The bases c + 1, c + 2, .. -/
def basN (c : Nat) : Nat → List Nat
  | 0 => []
  | n + 1 => (c + 1) :: basN (c + 1) n
theorem basN_len : ∀ (n c : Nat), (basN c n).length = n
  | 0, _ => rfl
  | n + 1, c => by simp [basN, basN_len n]
theorem mix_ok : ∀ (n c x : Nat), okN c (mixN x (basN c n))
  | 0, _, _ => trivial
  | n + 1, c, x => ⟨by have := Nat.mod_lt x (show 0 < c + 1 by omega); omega, mix_ok n (c + 1) _⟩
theorem basN_snoc : ∀ (n c : Nat), basN c (n + 1) = basN c n ++ [c + n + 1]
  | 0, _ => rfl
  | n + 1, c => by
    rw [basN, basN_snoc n (c + 1), basN]
    simp; omega
theorem basN_pos : ∀ (n c b : Nat), b ∈ basN c n → 0 < b ∧ b ≤ c + n
  | 0, _, _, h => by simp [basN] at h
  | n + 1, c, b, h => by
    rcases List.mem_cons.1 h with rfl | h
    · omega
    · have := basN_pos n (c + 1) b h; omega
/-- What is kept of 0 .. n - 1 by the choices of number x. -/
def resN (room n x : Nat) : List Nat := goN room [] (List.range n) (mixN x (basN 0 n))
theorem all_inN {room n x : Nat} (h1 : 1 ≤ room) (h2 : room ≤ 400) (hn : n ≤ 1000) : allR room (inN (List.range n)) (inN (mixN x (basN 0 n))) = (((room : Int), (n : Int), inN (resN room n x)), 0) := by
  unfold allR
  have hl : (List.range n).length = (mixN x (basN 0 n)).length := by rw [mixN_len, basN_len, List.length_range]
  rw [if_neg (by omega), if_neg (by rw [inN_len, inN_len]; omega)]
  have := goR_inN room (List.range n) (mixN x (basN 0 n)) 0 [] hl (mix_ok n 0 x) (by rw [List.length_range]; omega)
  rw [List.length_range, Nat.zero_add] at this
  exact this
theorem mem_nxN {room : Nat} {xs : List Nat} {x d y : Nat} (h : y ∈ nxN room xs x d) : y ∈ xs ∨ y = x := by
  unfold nxN at h
  split at h
  · simpa using h
  · split at h
    · exact List.mem_or_eq_of_mem_set h
    · exact .inl h
theorem mem_goN {room : Nat} {y : Nat} : ∀ (l ds xs : List Nat), y ∈ goN room xs l ds → y ∈ xs ∨ y ∈ l
  | [], _, xs, h => by simp [goN] at h; exact .inl h
  | x :: l, [], xs, h => by simp [goN] at h; exact .inl h
  | x :: l, d :: ds, xs, h => by
    rw [goN] at h
    rcases mem_goN l ds _ h with h | h
    · rcases mem_nxN h with h | rfl
      · exact .inl h
      · exact .inr List.mem_cons_self
    · exact .inr (List.mem_cons_of_mem _ h)
theorem mem_resN {room n x y : Nat} (h : y ∈ resN room n x) : y < n := by
  rcases mem_goN _ _ _ h with h | h
  · simp at h
  · exact List.mem_range.1 h
theorem nxN_len (room : Nat) (xs : List Nat) (x d : Nat) (h : xs.length ≤ room) : (nxN room xs x d).length ≤ room := by
  unfold nxN; split
  · rw [List.length_append, List.length_singleton]; omega
  · split
    · rw [List.length_set]; exact h
    · exact h
theorem goN_len (room : Nat) : ∀ (l ds xs : List Nat), xs.length ≤ room → (goN room xs l ds).length ≤ room
  | [], ds, _, h => by cases ds <;> exact h
  | _ :: _, [], _, h => h
  | x :: l, d :: ds, xs, h => goN_len room l ds _ (nxN_len room xs x d h)
theorem resN_len (room n x : Nat) : (resN room n x).length ≤ room := goN_len room _ _ _ (by simp)
/-- A set of numbers, as bits. -/
def setN (xs : List Nat) : Nat := xs.foldl (fun s x => s ||| 2 ^ x) 0
theorem foldl_or_lt : ∀ (xs : List Nat) (s : Nat), s < 64 → (∀ x ∈ xs, x < 6) → xs.foldl (fun s x => s ||| 2 ^ x) s < 64
  | [], s, h, _ => h
  | x :: r, s, h, hx => foldl_or_lt r _ (Nat.or_lt_two_pow (n := 6) h (Nat.pow_lt_pow_right (by omega) (hx x List.mem_cons_self))) (fun y hy => hx y (List.mem_cons_of_mem _ hy))
theorem setN_snoc (xs : List Nat) (x : Nat) : setN (xs ++ [x]) = setN xs ||| 2 ^ x := by simp [setN]
theorem setN_lt {xs : List Nat} (h : ∀ x ∈ xs, x < 6) : setN xs < 64 := foldl_or_lt xs 0 (by omega) h
def fc : Nat → Nat
  | 0 => 1
  | n + 1 => fc n * (n + 1)
def wn (n : Nat) : Nat → Nat
  | 0 => 1
  | k + 1 => wn n k * (n - k) / (k + 1)
/-- The sets that the first k choices keep, the last one first. -/
def seenN (room n : Nat) : Nat → List Nat
  | 0 => []
  | k + 1 => setN (resN room n k) :: seenN room n k
theorem seenN_len (room n : Nat) : ∀ k, (seenN room n k).length = k
  | 0 => rfl
  | k + 1 => by simp [seenN, seenN_len room n k]
theorem fc_le : ∀ n, n ≤ 6 → 1 ≤ fc n ∧ fc n ≤ 720 := by decide +kernel
theorem wn_le : ∀ n, n ≤ 6 → ∀ k, k ≤ n → wn n k ≤ 20 := by decide +kernel
end Go.Proofs.Ytjhcbjpbmbjgoaa
