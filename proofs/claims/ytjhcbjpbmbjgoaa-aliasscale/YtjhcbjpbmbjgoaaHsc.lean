/- Alias tables: weights times a constant. -/
import Derived.Test.YtjhcbjpbmbjgoaaHa
namespace Go.Proofs.Ytjhcbjpbmbjgoaa

def scA (b : Int) (S : AT) : AT := S.map fun e => (b * e.1, e.2)
theorem scA_len (b : Int) (S : AT) : (scA b S).length = S.length := by simp [scA]
theorem scA_at (b : Int) (S : AT) (i : Nat) : (scA b S).getD i (0, 0) = (b * lev S i, too S i) := by
  unfold lev too scA
  simp only [List.getD_eq_getElem?_getD, List.getElem?_map]
  cases S[i]? <;> simp
theorem scA_lev (b : Int) (S : AT) (i : Nat) : lev (scA b S) i = b * lev S i := by unfold lev; rw [scA_at]; rfl
theorem scA_too (b : Int) (S : AT) (i : Nat) : too (scA b S) i = too S i := by unfold too; rw [scA_at]; rfl
theorem scA_lo {b : Int} (hb : 0 < b) (s : Int) (S : AT) : loI (b * s) (scA b S) = loI s S := by
  unfold loI
  rw [scA_len]
  refine first_congr fun j _ => ?_
  unfold lowP
  rw [scA_lev, scA_too]
  congr 1
  rw [decide_eq_decide]
  exact ⟨fun h => Int.lt_of_mul_lt_mul_left h (Int.le_of_lt hb), fun h => Int.mul_lt_mul_of_pos_left h hb⟩
theorem scA_hi {b : Int} (hb : 0 < b) (s : Int) (S : AT) : hiI (b * s) (scA b S) = hiI s S := by
  unfold hiI
  rw [scA_len]
  refine first_congr fun j _ => ?_
  unfold highP
  rw [scA_lev, decide_eq_decide]
  exact ⟨fun h => Int.lt_of_mul_lt_mul_left h (Int.le_of_lt hb), fun h => Int.mul_lt_mul_of_pos_left h hb⟩
theorem scA_set (b : Int) (S : AT) (i : Nat) (e : Int × Int) : scA b (S.set i e) = (scA b S).set i (b * e.1, e.2) := by
  unfold scA; rw [List.map_set]
theorem scA_pair (b s : Int) (S : AT) (L H : Nat) : scA b (pairA s S L H) = pairA (b * s) (scA b S) L H := by
  unfold pairA
  rw [scA_set, scA_set, scA_lev, scA_lev, scA_too]
  congr 2
  rw [Int.mul_sub, Int.mul_sub]
theorem scA_run {b : Int} (hb : 0 < b) (s : Int) : ∀ (m : Nat) (S : AT), runA (b * s) m (scA b S) = scA b (runA s m S)
  | 0, _ => rfl
  | m + 1, S => by
    by_cases h : 0 ≤ loI s S ∧ 0 ≤ hiI s S
    · rw [runA_go h, runA_go (by rw [scA_lo hb, scA_hi hb]; exact h), ← scA_run hb s m]
      congr 1
      unfold stepA
      rw [scA_lo hb, scA_hi hb, scA_pair]
    · rw [runA_stop h, runA_stop (by rw [scA_lo hb, scA_hi hb]; exact h)]
theorem sumW_mul (b : Int) (W : List Int) : sumW (W.map (fun x => x * b)) = b * sumW W := by
  induction W with
  | nil => simp [sumW]
  | cons x r ih => rw [List.map_cons, sumW, sumW, ih, Int.mul_add, Int.mul_comm x b]
theorem initA_mul (b : Int) (W : List Int) : initA (W.map (fun x => x * b)) = scA b (initA W) := by
  unfold initA scA
  rw [List.map_map, List.length_map]
  refine List.map_congr_left fun i hi => ?_
  have hi := List.mem_range.1 hi
  simp only [Function.comp, List.getD_eq_getElem?_getD, List.getElem?_map, List.getElem?_eq_getElem hi, Option.map_some, Option.getD_some]
  congr 1
  rw [Int.mul_comm (W[i]) b, Int.mul_assoc]
/-- All weights times b: all levels times b. -/
theorem makeA_mul {b : Int} (hb : 0 < b) (W : List Int) : makeA (W.map (fun x => x * b)) = scA b (makeA W) := by
  unfold makeA
  rw [sumW_mul, initA_mul, List.length_map, scA_run hb]
end Go.Proofs.Ytjhcbjpbmbjgoaa
