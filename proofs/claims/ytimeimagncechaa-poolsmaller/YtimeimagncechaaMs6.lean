/- Smaller reservoirs over all choices: the mathematics. -/
import Derived.Test.YtimeimagncechaaMa6
namespace Go.Proofs.Ytimeimagncechaa

def erN : List Nat → List Nat → List Nat
  | xs, [] => xs
  | xs, d :: ds => erN (xs.eraseIdx d) ds
/-- less + c, .., less + 1 -/
def dnN (less : Nat) : Nat → List Nat
  | 0 => []
  | c + 1 => (less + c + 1) :: dnN less c
def outsN (less : Nat) : Nat → Nat
  | 0 => 1
  | c + 1 => (less + c + 1) * outsN less c
theorem dnN_len (less : Nat) : ∀ c, (dnN less c).length = c
  | 0 => rfl
  | c + 1 => by simp [dnN, dnN_len less c]
theorem dnN_pos (less : Nat) : ∀ c b, b ∈ dnN less c → 0 < b ∧ b ≤ less + c
  | 0, _, h => by simp [dnN] at h
  | c + 1, b, h => by
    rcases List.mem_cons.1 h with rfl | h
    · omega
    · have := dnN_pos less c b h; omega
/-- What the inner choices keep, one after the other, the last one first. -/
def inS (xs bs : List Nat) (S : List Nat) : Nat → List Nat
  | 0 => S
  | x + 1 => setN (erN xs (mixN x bs)) :: inS xs bs S x
def seenS (room less n : Nat) : Nat → List Nat
  | 0 => []
  | k + 1 => inS (resN room n k) (dnN less (room - less)) (seenS room less n k) (outsN less (room - less))
theorem inS_len (xs bs S : List Nat) : ∀ x, (inS xs bs S x).length = S.length + x
  | 0 => rfl
  | x + 1 => by rw [inS, List.length_cons, inS_len xs bs S x]; omega
theorem seenS_len (room less n : Nat) : ∀ k, (seenS room less n k).length = k * outsN less (room - less)
  | 0 => by simp [seenS]
  | k + 1 => by rw [seenS, inS_len, seenS_len room less n k, Nat.succ_mul]

theorem map_erase {α β : Type} (f : α → β) : ∀ (l : List α) (d : Nat), (l.map f).eraseIdx d = (l.eraseIdx d).map f
  | [], _ => rfl
  | _ :: _, 0 => rfl
  | x :: l, d + 1 => by simp [map_erase f l d]
theorem outR_inN (less came : Nat) : ∀ (c : Nat) (xs : List Nat) (x : Nat), xs.length = less + c → outR less came (inN xs) (inN (mixN x (dnN less c))) = (((less : Int), (came : Int), inN (erN xs (mixN x (dnN less c)))), 0)
  | 0, xs, x, h => by
    rw [outR_end (by rw [inN_len]; omega)]; rfl
  | c + 1, xs, x, h => by
    have hd : x % (less + c + 1) < xs.length := by have := Nat.mod_lt x (show 0 < less + c + 1 by omega); omega
    have e1 : inN (mixN x (dnN less (c + 1))) = ((x % (less + c + 1) : Nat) : Int) :: inN (mixN (x / (less + c + 1)) (dnN less c)) := rfl
    have e2 : (inN xs).eraseIdx (x % (less + c + 1)) = inN (xs.eraseIdx (x % (less + c + 1))) := by
      unfold inN
      rw [map_erase]
    rw [e1, outR, if_neg (by rw [inN_len]; omega), if_neg (by rw [inN_len]; omega), Int.toNat_natCast, e2, outR_inN less came c _ _ (by rw [List.length_eraseIdx_of_lt hd]; omega)]
    rfl
theorem nxN_full {room : Nat} {xs : List Nat} {x d : Nat} : (nxN room xs x d).length = if xs.length < room then xs.length + 1 else xs.length := by
  unfold nxN
  split
  · rw [List.length_append, List.length_singleton]
  · split
    · rw [List.length_set]
    · rfl
theorem goN_full (room : Nat) : ∀ (l ds xs : List Nat), l.length = ds.length → xs.length ≤ room → (goN room xs l ds).length = min room (xs.length + l.length)
  | [], ds, xs, _, h => by cases ds <;> simp [goN] <;> omega
  | _ :: _, [], _, h, _ => by simp at h
  | x :: l, d :: ds, xs, h, hx => by
    rw [goN, goN_full room l ds _ (by simpa using h) (nxN_len room xs x d hx), nxN_full, List.length_cons]
    split <;> omega
theorem resN_full {room n x : Nat} (h : room ≤ n) : (resN room n x).length = room := by
  unfold resN
  rw [goN_full room _ _ _ (by rw [mixN_len, basN_len, List.length_range]) (by simp), List.length_range]
  simp; omega
theorem less_inN {room less n k x : Nat} (h0 : 1 ≤ less) (h1 : less ≤ room) (h2 : room ≤ n) (h3 : n ≤ 400) : lessR room n (inN (resN room n k)) less (inN (mixN x (dnN less (room - less)))) = (((less : Int), (n : Int), inN (erN (resN room n k) (mixN x (dnN less (room - less))))), 0) := by
  have hl := resN_full (x := k) h2
  unfold lessR
  rw [if_pos ⟨⟨by omega, by omega⟩, by omega, by omega, by rw [inN_len, hl]; omega⟩, if_neg (by omega)]
  exact outR_inN less n (room - less) _ x (by omega)
theorem mem_erN {y : Nat} : ∀ (ds xs : List Nat), y ∈ erN xs ds → y ∈ xs
  | [], _, h => h
  | d :: ds, xs, h => List.mem_of_mem_eraseIdx (mem_erN ds _ h)

/-! Positions. -/
theorem erN_map (f : Nat → Nat) : ∀ (ds l : List Nat), erN (l.map f) ds = (erN l ds).map f
  | [], _ => rfl
  | d :: ds, l => by rw [erN, erN, map_erase, erN_map f ds]
theorem map_at (xs : List Nat) : (List.range xs.length).map (fun i => xs.getD i 0) = xs := by
  apply List.ext_getElem
  · simp
  · intro i h1 h2
    simp [List.getD_eq_getElem?_getD, h2]
theorem foldl_or_bit (j : Nat) : ∀ (l : List Nat) (s : Nat), (l.foldl (fun s x => s ||| 2 ^ x) s).testBit j = (s.testBit j || decide (j ∈ l))
  | [], s => by simp
  | x :: r, s => by
    rw [List.foldl_cons, foldl_or_bit j r, Nat.testBit_or, Nat.testBit_two_pow]
    by_cases e : x = j
    · subst e; simp
    · have : decide (x = j) = false := decide_eq_false e
      rw [this, Bool.or_false]
      congr 1
      simp only [List.mem_cons]
      rw [Bool.eq_iff_iff, decide_eq_true_iff, decide_eq_true_iff]
      constructor
      · exact .inr
      · rintro (h | h)
        · exact absurd h.symm e
        · exact h
theorem setN_bit (l : List Nat) (j : Nat) : (setN l).testBit j = decide (j ∈ l) := by
  unfold setN; rw [foldl_or_bit]; simp
theorem setN_congr {a b : List Nat} (h : ∀ i, i ∈ a ↔ i ∈ b) : setN a = setN b := by
  apply Nat.eq_of_testBit_eq
  intro j
  rw [setN_bit, setN_bit]
  exact decide_eq_decide.2 (h j)
/-- The positions of a set. -/
def cl (T : Nat) : List Nat := (List.range 6).filter (fun i => T.testBit i)
theorem setN_cl (f : Nat → Nat) {l : List Nat} (h : ∀ x ∈ l, x < 6) : setN (l.map f) = setN ((cl (setN l)).map f) := by
  apply setN_congr
  intro i
  simp only [List.mem_map]
  constructor
  · rintro ⟨x, hx, e⟩
    refine ⟨x, ?_, e⟩
    unfold cl
    rw [List.mem_filter, setN_bit]
    exact ⟨List.mem_range.2 (h x hx), decide_eq_true hx⟩
  · rintro ⟨x, hx, e⟩
    unfold cl at hx
    rw [List.mem_filter, setN_bit] at hx
    exact ⟨x, of_decide_eq_true hx.2, e⟩
/-- What is kept by positions. -/
def posS (room less : Nat) : Nat → List Nat
  | 0 => []
  | x + 1 => setN (erN (List.range room) (mixN x (dnN less (room - less)))) :: posS room less x
/-- The sets of so many positions. -/
def subs (room less : Nat) : List Nat := (List.range (2 ^ room)).filter (fun T => (cl T).length == less)
def gK (xs : List Nat) (T : Nat) : Nat := setN ((cl T).map (fun i => xs.getD i 0))
theorem inS_pos {room less : Nat} {xs : List Nat} (hx : xs.length = room) (hr : room ≤ 6) (S : List Nat) : ∀ x, inS xs (dnN less (room - less)) S x = (posS room less x).map (gK xs) ++ S
  | 0 => rfl
  | x + 1 => by
    rw [inS, posS, List.map_cons, List.cons_append, inS_pos hx hr S x]
    congr 1
    have e : xs = (List.range room).map (fun i => xs.getD i 0) := by rw [← hx, map_at]
    conv => lhs; rw [e, erN_map]
    rw [setN_cl (fun i => xs.getD i 0) (l := erN (List.range room) (mixN x (dnN less (room - less))))]
    · rfl
    · intro y hy
      have := List.mem_range.1 (mem_erN _ _ hy)
      omega
/-- All of them, each set of positions once. -/
def seenK (room less n : Nat) : Nat → List Nat
  | 0 => []
  | k + 1 => (subs room less).map (gK (resN room n k)) ++ seenK room less n k
theorem count_rep (u a : Nat) (K : List Nat) : ((List.replicate u K).flatten).count a = u * K.count a := by
  induction u with
  | zero => simp
  | succ u ih => rw [List.replicate_succ, List.flatten_cons, List.count_append, ih, Nat.succ_mul]; omega
theorem count_map_rep {P K : List Nat} {u : Nat} (h : ∀ T, P.count T = u * K.count T) (g : Nat → Nat) (s : Nat) : (P.map g).count s = u * (K.map g).count s := by
  have hp : P.Perm ((List.replicate u K).flatten) := List.perm_iff_count.2 (fun a => by rw [h a, count_rep])
  rw [(hp.map g).count_eq s, List.map_flatten, List.map_replicate, count_rep]
theorem seenS_count {room less n u : Nat} (h2 : room ≤ n) (hr : room ≤ 6) (hu : ∀ T, (posS room less (outsN less (room - less))).count T = u * (subs room less).count T) (s : Nat) : ∀ k, (seenS room less n k).count s = u * (seenK room less n k).count s
  | 0 => by simp [seenS, seenK]
  | k + 1 => by
    rw [seenS, inS_pos (resN_full h2) hr, List.count_append, count_map_rep hu, seenS_count h2 hr hu s k, seenK, List.count_append, Nat.mul_add]
theorem dd_nodup : ∀ l : List Nat, (dd l).Nodup
  | [] => List.nodup_nil
  | x :: r => by
    rw [dd]
    split
    · exact dd_nodup r
    · rename_i h
      rw [List.contains_iff_mem] at h
      exact List.nodup_cons.2 ⟨h, dd_nodup r⟩
theorem dd_same {a b : List Nat} (h : ∀ s, s ∈ a ↔ s ∈ b) : (dd a).length = (dd b).length := by
  have hp : (dd a).Perm (dd b) := List.perm_iff_count.2 (fun s => by
    rw [(dd_nodup a).count, (dd_nodup b).count]
    simp only [mem_dd, h s])
  exact hp.length_eq
end Go.Proofs.Ytimeimagncechaa
