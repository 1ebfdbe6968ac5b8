/- Alias tables: how often each index is drawn. -/
import Derived.Test.YtjhcbjpbmbjgoaaH9
namespace Go.Proofs.Ytjhcbjpbmbjgoaa

def sumR (g : Nat → Int) : Nat → Int
  | 0 => 0
  | n + 1 => sumR g n + g n
theorem sumR_head (g : Nat → Int) : ∀ n, sumR g (n + 1) = g 0 + sumR (fun q => g (q + 1)) n
  | 0 => by simp [sumR]
  | n + 1 => by
    rw [sumR, sumR_head g n, sumR]
    omega
theorem sumA_sumR (f : Nat → Int × Int → Int) : ∀ (S : AT) (i : Nat), sumA f i S = sumR (fun q => f (i + q) (S.getD q (0, 0))) S.length
  | [], _ => rfl
  | e :: r, i => by
    rw [sumA, sumA_sumR f r (i + 1), List.length_cons, sumR_head]
    simp only [List.getD_cons_zero, List.getD_cons_succ, Nat.add_zero]
    have e : (fun q => f (i + 1 + q) (r.getD q (0, 0))) = fun q => f (i + (q + 1)) (r.getD q (0, 0)) := by
      funext q
      rw [show i + 1 + q = i + (q + 1) by omega]
    rw [e]
theorem sumR_congr {g h : Nat → Int} : ∀ {n : Nat}, (∀ q, q < n → g q = h q) → sumR g n = sumR h n
  | 0, _ => rfl
  | n + 1, e => by rw [sumR, sumR, sumR_congr (fun q hq => e q (by omega)), e n (by omega)]
/-- How often place q draws k, of the levels below t. -/
def ctA (S : AT) (k q : Nat) (t : Int) : Int := (if q = k then min t (lev S q) else 0) + (if too S q = k then max 0 (t - lev S q) else 0)
/-- How often k comes, of all levels of the places below p. -/
def fuA (S : AT) (s : Int) (k p : Nat) : Int := sumR (fun q => ctA S k q s) p
def rowT (S : AT) (s : Int) (n p : Nat) (t : Int) : List Int := (List.range n).map fun k => fuA S s k p + ctA S k p t
theorem rowT_len (S : AT) (s : Int) (n p : Nat) (t : Int) : (rowT S s n p t).length = n := by simp [rowT]
theorem rowT_at {S : AT} {s : Int} {n p k : Nat} {t : Int} (h : k < n) : (rowT S s n p t).getD k 0 = fuA S s k p + ctA S k p t := by
  simp [rowT, List.getD_eq_getElem?_getD, h]
theorem ctA_bound {S : AT} {k q : Nat} {t : Int} (h : 0 ≤ lev S q) (ht : 0 ≤ t) : 0 ≤ ctA S k q t ∧ ctA S k q t ≤ t := by
  unfold ctA
  split <;> split <;> omega
theorem fuA_bound {S : AT} {s : Int} {k : Nat} (hs : 0 ≤ s) : ∀ {p : Nat}, (∀ q, q < p → 0 ≤ lev S q) → 0 ≤ fuA S s k p ∧ fuA S s k p ≤ (p : Int) * s
  | 0, _ => by simp [fuA, sumR]
  | p + 1, h => by
    have h1 := fuA_bound (S := S) (k := k) hs (p := p) (fun q hq => h q (by omega))
    have h2 := ctA_bound (k := k) (h p (by omega)) hs
    have e : fuA S s k (p + 1) = fuA S s k p + ctA S k p s := rfl
    rw [e]
    push_cast
    rw [Int.add_mul]
    omega
theorem ctA_zero {S : AT} {k q : Nat} (h : 0 ≤ lev S q) : ctA S k q 0 = 0 := by
  have := ctA_bound (k := k) h (Int.le_refl 0)
  omega
theorem ctA_step {S : AT} {k p : Nat} {t : Nat} (h : 0 ≤ lev S p) : ctA S k p ((t : Int) + 1) = ctA S k p t + (if (if (t : Int) < lev S p then (p : Int) else too S p) = (k : Int) then 1 else 0) := by
  unfold ctA
  by_cases h1 : (t : Int) < lev S p
  · rw [if_pos h1]
    by_cases h2 : p = k
    · subst h2
      rw [if_pos rfl, if_pos rfl, if_pos rfl]
      split <;> omega
    · rw [if_neg h2, if_neg h2, if_neg (c := (p : Int) = k) (by omega)]
      split <;> omega
  · rw [if_neg h1]
    by_cases h2 : too S p = k
    · rw [if_pos h2, if_pos h2, if_pos h2]
      split <;> omega
    · rw [if_neg h2, if_neg h2, if_neg h2]
      split <;> omega
/-- One more level. -/
theorem rowT_step {S : AT} {s : Int} {n p d : Nat} {t : Nat} (h : 0 ≤ lev S p) (hd : (if (t : Int) < lev S p then (p : Int) else too S p) = (d : Int)) (hdn : d < n) :
    (rowT S s n p t).set d ((rowT S s n p t).getD d 0 + 1) = rowT S s n p ((t : Int) + 1) := by
  apply List.ext_getElem?
  intro k
  by_cases hk : k < n
  · have e1 : (rowT S s n p ((t : Int) + 1))[k]? = some (fuA S s k p + ctA S k p ((t : Int) + 1)) := by simp [rowT, hk]
    rw [e1, ctA_step h, hd]
    by_cases e : d = k
    · subst e
      rw [if_pos rfl, rowT_at hk, List.getElem?_set_self (by rw [rowT_len]; exact hk)]
      congr 1
      omega
    · rw [List.getElem?_set_ne e, if_neg (by omega)]
      simp [rowT, hk]
  · rw [List.getElem?_eq_none (by simp [rowT_len]; omega), List.getElem?_eq_none (by rw [rowT_len]; omega)]
/-- All levels of a place are the place's. -/
theorem rowT_next {S : AT} {s : Int} {n p : Nat} (h : p + 1 < n → 0 ≤ lev S (p + 1)) (h2 : ∀ q, S.length ≤ q → lev S q = 0) (hn : S.length = n) : rowT S s n p s = rowT S s n (p + 1) 0 := by
  unfold rowT
  refine List.map_congr_left fun k hk => ?_
  have e : fuA S s k (p + 1) = fuA S s k p + ctA S k p s := rfl
  rw [e, ctA_zero]
  · omega
  · by_cases h3 : p + 1 < n
    · exact h h3
    · rw [h2 _ (by omega)]; exact Int.le_refl _
theorem lev_out {S : AT} {q : Nat} (h : S.length ≤ q) : lev S q = 0 := by
  unfold lev
  simp [List.getD_eq_getElem?_getD, h]
theorem rowT_zero {S : AT} {s : Int} {n : Nat} (h : 0 ≤ lev S 0) : rowT S s n 0 0 = List.replicate n 0 := by
  apply List.ext_getElem?
  intro k
  by_cases hk : k < n
  · simp [rowT, hk, fuA, sumR, ctA_zero h]
  · simp [rowT, hk]
/-- Each index as often as its weight, times how many there are. -/
theorem fuA_all {W : List Int} (hR : WR W) {k : Nat} (hk : k < W.length) : fuA (makeA W) (sumW W) k W.length = W.getD k 0 * (W.length : Int) := by
  have hi := makeA_inv hR.nonneg
  have hl := makeA_len hR.nonneg
  rw [← hi.cn k (by omega), sumA_sumR, hl]
  refine sumR_congr fun q hq => ?_
  obtain ⟨h1, h2, h3, h4, h5, _⟩ := tabA hR hq
  have ho := makeA_open hR.nonneg q hq
  unfold ctA cnA
  rw [Nat.zero_add]
  show _ = (if q = k then lev (makeA W) q else 0) + (if too (makeA W) q = k ∧ too (makeA W) q ≠ q then sumW W - lev (makeA W) q else 0)
  rw [show min (sumW W) (lev (makeA W) q) = lev (makeA W) q by omega]
  congr 1
  by_cases e : too (makeA W) q = k
  · rw [if_pos e]
    by_cases e2 : too (makeA W) q = q
    · rw [if_neg (fun h => h.2 e2), ho e2]; omega
    · rw [if_pos ⟨e, e2⟩]; omega
  · rw [if_neg e, if_neg (fun h => e h.1)]
end Go.Proofs.Ytjhcbjpbmbjgoaa
