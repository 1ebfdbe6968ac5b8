/- Plain mathematics of tapes: binary numbers, drawing below a bound, drawing many, the fair bit. -/
import Derived.Lib.BitFns
namespace Go.Proofs.Ytkfpomeemcmfmaa

/-- The number that a group of bits is, the most significant one first. -/
def bn (l : List Bool) : Nat := l.foldl (fun a b => 2 * a + b.toNat) 0
theorem bn_snoc (l : List Bool) (b : Bool) : bn (l ++ [b]) = 2 * bn l + b.toNat := by simp [bn]
theorem bn_nil : bn [] = 0 := rfl
theorem bn_lt (l : List Bool) : bn l < 2 ^ l.length := by
  suffices ∀ (l : List Bool) (a k : Nat), a < 2 ^ k → l.foldl (fun a b => 2 * a + b.toNat) a < 2 ^ (k + l.length) from by
    have := this l 0 0 (by simp)
    simpa [bn] using this
  intro l
  induction l with
  | nil => intro a k h; simpa using h
  | cons b l ih =>
    intro a k h
    have := ih (2 * a + b.toNat) (k + 1) (by rw [Nat.pow_succ]; cases b <;> simp <;> omega)
    simp only [List.foldl_cons, List.length_cons]
    rw [show k + (l.length + 1) = k + 1 + l.length by omega]
    exact this
theorem bn_take_succ {t : List Bool} {k : Nat} (h : k < t.length) : bn (t.take (k + 1)) = 2 * bn (t.take k) + (t.getD k false).toNat := by
  rw [List.take_succ_eq_append_getElem h, bn_snoc]
  simp [List.getD_eq_getElem?_getD, h]

/-- The first of the groups of w bits whose number is less than n: the number, and the bits up to the group's end. -/
def drawF (w n : Nat) : Nat → List Bool → Option (Nat × Nat)
  | 0, _ => none
  | f + 1, t => if t.length < w then none else if bn (t.take w) < n then some (bn (t.take w), w) else (drawF w n f (t.drop w)).map fun p => (p.1, p.2 + w)
def draw (w n : Nat) (t : List Bool) : Option (Nat × Nat) := drawF w n (t.length + 1) t

theorem drawF_fuel {w n : Nat} (hw : 0 < w) : ∀ (f g : Nat) (t : List Bool), t.length < f → t.length < g → drawF w n f t = drawF w n g t
  | f + 1, g + 1, t, hf, hg => by
    simp only [drawF]
    by_cases h : t.length < w
    · simp [h]
    · simp only [h, if_false]
      rw [drawF_fuel hw f g (t.drop w) (by simp; omega) (by simp; omega)]
theorem draw_eq {w n : Nat} (hw : 0 < w) (t : List Bool) : draw w n t = if t.length < w then none else if bn (t.take w) < n then some (bn (t.take w), w) else (draw w n (t.drop w)).map fun p => (p.1, p.2 + w) := by
  unfold draw
  rw [drawF]
  by_cases h : t.length < w
  · simp [h]
  · simp only [h, if_false]
    rw [drawF_fuel hw t.length ((t.drop w).length + 1) (t.drop w) (by simp; omega) (by omega)]
theorem draw_zero {n : Nat} (hn : 0 < n) (t : List Bool) : draw 0 n t = some (0, 0) := by
  unfold draw; rw [drawF]; simp [bn_nil, hn]
theorem draw_short {w n : Nat} (hw : 0 < w) {t : List Bool} (h : t.length < w) : draw w n t = none := by
  rw [draw_eq hw, if_pos h]
theorem draw_hit {w n : Nat} (hw : 0 < w) {t : List Bool} (h : w ≤ t.length) (hb : bn (t.take w) < n) : draw w n t = some (bn (t.take w), w) := by
  rw [draw_eq hw, if_neg (by omega), if_pos hb]
theorem draw_miss {w n : Nat} (hw : 0 < w) {t : List Bool} (h : w ≤ t.length) (hb : n ≤ bn (t.take w)) : draw w n t = (draw w n (t.drop w)).map fun p => (p.1, p.2 + w) := by
  rw [draw_eq hw, if_neg (by omega), if_neg (by omega)]
/-- What is drawn lies below n and on the tape; so many bits decide it. -/
theorem drawF_some {w n : Nat} : ∀ (f : Nat) (t : List Bool) (x u : Nat), drawF w n f t = some (x, u) → x < n ∧ u ≤ t.length ∧ w ≤ u
  | f + 1, t, x, u, h => by
    simp only [drawF] at h
    split at h
    · cases h
    · split at h
      · simp only [Option.some.injEq, Prod.mk.injEq] at h
        omega
      · cases e : drawF w n f (t.drop w) with
        | none => simp [e] at h
        | some p =>
          simp only [e, Option.map_some, Option.some.injEq, Prod.mk.injEq] at h
          have := drawF_some f (t.drop w) p.1 p.2 (by rw [e])
          simp at this
          omega
theorem draw_some {w n : Nat} {t : List Bool} {x u : Nat} (h : draw w n t = some (x, u)) : x < n ∧ u ≤ t.length ∧ w ≤ u := drawF_some _ _ _ _ h
/-- What lies behind the bits that were used does not count. -/
theorem draw_used {w n : Nat} (hw : 0 < w) (s : List Bool) : ∀ (m : Nat) (t : List Bool) (x u : Nat), t.length ≤ m → draw w n t = some (x, u) → draw w n (t.take u ++ s) = some (x, u)
  | 0, t, x, u, hm, h => by
    rw [draw_short hw (by omega)] at h; cases h
  | m + 1, t, x, u, hm, h => by
    by_cases hl : t.length < w
    · rw [draw_short hw hl] at h; cases h
    · by_cases hb : bn (t.take w) < n
      · rw [draw_hit hw (by omega) hb] at h
        simp only [Option.some.injEq, Prod.mk.injEq] at h
        obtain ⟨rfl, rfl⟩ := h
        have e : (t.take w ++ s).take w = t.take w := by
          rw [List.take_append_of_le_length (by simp; omega), List.take_take, Nat.min_self]
        rw [draw_hit hw (by simp; omega) (by rw [e]; exact hb), e]
      · have hbu := (draw_some h).2
        rw [draw_miss hw (by omega) (by omega)] at h
        cases e : draw w n (t.drop w) with
        | none => simp [e] at h
        | some p =>
          simp only [e, Option.map_some, Option.some.injEq, Prod.mk.injEq] at h
          obtain ⟨rfl, rfl⟩ := h
          have ih := draw_used hw s m (t.drop w) p.1 p.2 (by simp; omega) e
          have e1 : (t.take (p.2 + w) ++ s).take w = t.take w := by
            rw [List.take_append_of_le_length (by simp; omega), List.take_take, Nat.min_eq_left (by omega)]
          have e2 : (t.take (p.2 + w) ++ s).drop w = (t.drop w).take p.2 ++ s := by
            rw [List.drop_append_of_le_length (by simp; omega), List.drop_take, Nat.add_sub_cancel]
          rw [draw_miss hw (by simp; omega) (by rw [e1]; omega), e2, ih]
          rfl
/-- The draw from the bits behind the first s ones, told of the whole tape. -/
def shft (s : Nat) (o : Option (Nat × Nat)) : Option (Nat × Nat) := o.map fun p => (p.1, p.2 + s)
theorem shft_shft (a b : Nat) (o : Option (Nat × Nat)) : shft a (shft b o) = shft (a + b) o := by
  cases o <;> simp [shft]; omega
theorem shft_zero (o : Option (Nat × Nat)) : shft 0 o = o := by cases o <;> rfl

/-- Below's three answers: the number, the bits used, the error. -/
def ansOf : Option (Nat × Nat) → Int × Int × Int
  | none => (0, 0, 7)
  | some p => (p.1, p.2, 0)
def bel (t : List Bool) (n : Int) : Int × Int × Int :=
  if n < 1 ∨ 1099511627776 < n then (0, 0, 2) else ansOf (draw (Lib.bitLen (n.toNat - 1)) n.toNat t)
theorem bel_bad {t : List Bool} {n : Int} (h : n < 1 ∨ 1099511627776 < n) : bel t n = (0, 0, 2) := if_pos h
theorem bel_good {t : List Bool} {n : Nat} (h1 : 1 ≤ n) (h2 : n ≤ 1099511627776) : bel t (n : Int) = ansOf (draw (Lib.bitLen (n - 1)) n t) := by
  unfold bel; rw [if_neg (by omega), Int.toNat_natCast]
theorem wid_le {n : Nat} (h2 : n ≤ 1099511627776) : Lib.bitLen (n - 1) ≤ 40 := Lib.bitLen_le _ 40 (by omega) (by omega)
theorem wid_pos {n : Nat} (h : 2 ≤ n) (h2 : n ≤ 1099511627776) : 0 < Lib.bitLen (n - 1) := by
  rw [Lib.bitLen_half _ (by omega) (by omega)]; omega
theorem wid_one : Lib.bitLen (1 - 1) = 0 := by decide
/-- Either an error with zeros, or a number below n and bits of the tape. -/
theorem bel_cases (t : List Bool) (n : Int) : (∃ c : Int, (c = 2 ∨ c = 7) ∧ bel t n = (0, 0, c)) ∨ ∃ (x u : Nat), bel t n = ((x : Int), (u : Int), (0 : Int)) ∧ (x : Int) < n ∧ u ≤ t.length ∧ ∀ s, bel (t.take u ++ s) n = ((x : Int), (u : Int), (0 : Int)) := by
  by_cases h : n < 1 ∨ 1099511627776 < n
  · exact .inl ⟨2, .inl rfl, bel_bad h⟩
  · obtain ⟨m, rfl⟩ : ∃ m : Nat, n = m := ⟨n.toNat, by omega⟩
    rw [bel_good (by omega) (by omega)]
    by_cases h1 : m = 1
    · subst h1
      right
      refine ⟨0, 0, by rw [wid_one, draw_zero (by omega)]; rfl, by omega, by omega, fun s => ?_⟩
      rw [bel_good (by omega) (by omega), wid_one, draw_zero (by omega)]; rfl
    · cases e : draw (Lib.bitLen (m - 1)) m t with
      | none => exact .inl ⟨7, .inr rfl, rfl⟩
      | some p =>
        right
        have hs := draw_some e
        refine ⟨p.1, p.2, rfl, by omega, hs.2.1, fun s => ?_⟩
        rw [bel_good (by omega) (by omega), draw_used (wid_pos (by omega) (by omega)) s t.length t p.1 p.2 (Nat.le_refl _) e]; rfl

/-- Many's three answers. -/
def mny (t : List Bool) : List Int → List Int × Int × Int
  | [] => ([], 0, 0)
  | n :: ns => if (bel t n).2.2 ≠ 0 then ([], 0, (bel t n).2.2) else
    let r := mny (t.drop (bel t n).2.1.toNat) ns
    if r.2.2 ≠ 0 then ([], 0, r.2.2) else ((bel t n).1 :: r.1, (bel t n).2.1 + r.2.1, 0)
/-- What Many answers where xs were drawn with c bits, and the rest answers r. -/
def comb (xs : List Int) (c : Nat) (r : List Int × Int × Int) : List Int × Int × Int :=
  if r.2.2 ≠ 0 then ([], 0, r.2.2) else (xs ++ r.1, (c : Int) + r.2.1, 0)
theorem mny_err (t : List Bool) : ∀ ns, (mny t ns).2.2 ≠ 0 → (mny t ns).1 = [] ∧ (mny t ns).2.1 = 0
  | [], h => absurd rfl h
  | n :: ns, h => by
    unfold mny at h ⊢
    by_cases h1 : (bel t n).2.2 ≠ 0
    · simp [h1]
    · simp only [h1, if_false] at h ⊢
      by_cases h2 : (mny (t.drop (bel t n).2.1.toNat) ns).2.2 ≠ 0
      · simp [h2]
      · simp [h2] at h
theorem comb_nil (t : List Bool) (ns : List Int) : comb [] 0 (mny t ns) = mny t ns := by
  unfold comb
  by_cases h : (mny t ns).2.2 ≠ 0
  · rw [if_pos h]; have := mny_err t ns h; ext1
    · exact this.1.symm
    · ext1
      · exact this.2.symm
      · rfl
  · rw [if_neg h]; simp at h; ext1
    · simp
    · ext1
      · simp
      · exact h.symm
theorem comb_step {t : List Bool} {n : Int} {ns : List Int} {xs : List Int} {c x u : Nat} (h : bel t n = ((x : Int), (u : Int), (0 : Int))) : comb xs c (mny t (n :: ns)) = comb (xs ++ [(x : Int)]) (c + u) (mny (t.drop u) ns) := by
  rw [mny]
  simp only [h, ne_eq, not_true_eq_false, if_false, Int.toNat_natCast]
  unfold comb
  by_cases h2 : (mny (t.drop u) ns).2.2 = 0
  · simp [h2]; omega
  · simp [h2]
theorem comb_fail {t : List Bool} {n : Int} {ns : List Int} {xs : List Int} {c : Nat} {e : Int} (h : bel t n = (0, 0, e)) (he : e ≠ 0) : comb xs c (mny t (n :: ns)) = ([], 0, e) := by
  rw [mny]
  simp [h, he, comb]
theorem comb_end (t : List Bool) (xs : List Int) (c : Nat) : comb xs c (mny t []) = (xs, (c : Int), 0) := by simp [comb, mny]
/-- Part by part. -/
theorem mny_used (t : List Bool) : ∀ ns, ∃ u : Nat, (mny t ns).2.1 = u ∧ u ≤ t.length := by
  intro ns
  induction ns generalizing t with
  | nil => exact ⟨0, rfl, by omega⟩
  | cons n ns ih =>
    rcases bel_cases t n with ⟨c, hc, h⟩ | ⟨x, u, h, _, hu, _⟩
    · exact ⟨0, by rw [mny]; rcases hc with rfl | rfl <;> simp [h], by omega⟩
    · obtain ⟨v, hv, hl⟩ := ih (t.drop u)
      rw [mny]
      simp only [h, ne_eq, not_true_eq_false, if_false, Int.toNat_natCast]
      by_cases h2 : (mny (t.drop u) ns).2.2 = 0
      · simp only [h2, not_true_eq_false, if_false]
        simp at hl
        exact ⟨u + v, by rw [hv]; rfl, by omega⟩
      · exact ⟨0, by simp [h2], by omega⟩
theorem mny_append (t : List Bool) (a b : List Int) : mny t (a ++ b) = if (mny t a).2.2 ≠ 0 then mny t a else comb (mny t a).1 (mny t a).2.1.toNat (mny (t.drop (mny t a).2.1.toNat) b) := by
  induction a generalizing t with
  | nil => simp [mny, comb_nil]
  | cons n ns ih =>
    rw [List.cons_append]
    rcases bel_cases t n with ⟨c, hc, h⟩ | ⟨x, u, h, _, hu, _⟩
    · have e1 : ∀ l, mny t (n :: l) = ([], 0, c) := fun l => by rw [mny]; rcases hc with rfl | rfl <;> simp [h]
      rw [e1, e1]; rcases hc with rfl | rfl <;> simp
    · rw [mny, mny]
      simp only [h, ne_eq, not_true_eq_false, if_false, Int.toNat_natCast]
      rw [ih]
      obtain ⟨v, hv, hl⟩ := mny_used (t.drop u) ns
      by_cases h2 : (mny (t.drop u) ns).2.2 = 0
      · simp only [h2, not_true_eq_false, ne_eq, if_false, hv]
        rw [show ((u : Int) + (v : Int)).toNat = u + v by omega, Int.toNat_natCast, List.drop_drop]
        unfold comb
        by_cases h3 : (mny (t.drop (u + v)) b).2.2 = 0
        · simp [h3]; omega
        · simp [h3]
      · simp [h2]

/-- Fair's three answers, so many pairs on. -/
def fairF : List Bool → Option (Bool × Nat)
  | a :: b :: t => if a = b then (fairF t).map fun p => (p.1, p.2 + 2) else some (a, 2)
  | _ => none
def fansOf : Option (Bool × Nat) → Bool × Int × Int
  | none => (false, 0, 7)
  | some p => (p.1, p.2, 0)
def fair (t : List Bool) : Bool × Int × Int := fansOf (fairF t)
def fsh (s : Nat) (o : Option (Bool × Nat)) : Option (Bool × Nat) := o.map fun p => (p.1, p.2 + s)
theorem fsh_zero (o : Option (Bool × Nat)) : fsh 0 o = o := by cases o <;> rfl
theorem fairF_two {t : List Bool} {k : Nat} (h : k + 2 ≤ t.length) : fairF (t.drop k) = if t.getD k false = t.getD (k + 1) false then (fairF (t.drop (k + 2))).map fun p => (p.1, p.2 + 2) else some (t.getD k false, 2) := by
  have e : t.drop k = t.getD k false :: t.getD (k + 1) false :: t.drop (k + 2) := by
    rw [List.drop_eq_getElem_cons (by omega : k < t.length), List.drop_eq_getElem_cons (by omega : k + 1 < t.length)]
    simp [List.getD_eq_getElem?_getD, show k < t.length by omega, show k + 1 < t.length by omega]
  rw [e, fairF]
theorem fairF_short {t : List Bool} {k : Nat} (h : t.length < k + 2) : fairF (t.drop k) = none := by
  have : (t.drop k).length < 2 := by simp; omega
  match t.drop k, this with
  | [], _ => rfl
  | [_], _ => rfl
theorem fair_go {t : List Bool} {k : Nat} (h : k + 2 ≤ t.length) (he : t.getD k false = t.getD (k + 1) false) : fsh k (fairF (t.drop k)) = fsh (k + 2) (fairF (t.drop (k + 2))) := by
  rw [fairF_two h, if_pos he]
  cases fairF (t.drop (k + 2)) <;> simp [fsh]; omega
theorem fair_hit {t : List Bool} {k : Nat} (h : k + 2 ≤ t.length) (he : t.getD k false ≠ t.getD (k + 1) false) : fsh k (fairF (t.drop k)) = some (t.getD k false, k + 2) := by
  rw [fairF_two h, if_neg he]; simp [fsh]; omega
theorem fair_end {t : List Bool} {k : Nat} (h : t.length < k + 2) : fsh k (fairF (t.drop k)) = none := by rw [fairF_short h]; rfl
end Go.Proofs.Ytkfpomeemcmfmaa
