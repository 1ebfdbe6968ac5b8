/- Merging over all choices: what the kernel's counts say. -/
import Derived.Test.YtjhcbjpbmbjgoaaMk7
import Derived.Test.YtjhcbjpbmbjgoaaMw
namespace Go.Proofs.Ytjhcbjpbmbjgoaa
open Go.RowKit Go.Maps

/-- The numbers that JoinEven takes. -/
structure VJ (R n m : Nat) : Prop where
  r1 : 1 ≤ R
  r2 : R ≤ 2
  nm : n + m ≤ 5
  le : R ≤ n + m
theorem basJ_len (all : Nat) : ∀ k, (basJ all k).length = k
  | 0 => rfl
  | k + 1 => by simp [basJ, basJ_len all k]
theorem basJ_mem {all : Nat} : ∀ {k : Nat}, k ≤ all → ∀ b ∈ basJ all k, 0 < b ∧ b ≤ all
  | 0, _, b, hb => by simp [basJ] at hb
  | k + 1, h, b, hb => by
    rw [basJ, List.mem_append] at hb
    rcases hb with hb | hb
    · exact basJ_mem (by omega) b hb
    · simp at hb
      omega
theorem dsJ_len (R n m X : Nat) : (dsJ R n m X).length = R := by rw [dsJ, mixN_len, basJ_len]
theorem stJ_zero (R n m X : Nat) : stJ R n m X 0 = ⟨n, m, min R n, min R m, [], 1⟩ := rfl
theorem stJ_step {R n m X k : Nat} (hk : k < R) : stJ R n m X (k + 1) = (stJ R n m X k).step ((dsJ R n m X).getD k 0) := by
  have h : k < (dsJ R n m X).length := by rw [dsJ_len]; exact hk
  unfold stJ
  rw [List.take_succ_eq_append_getElem h, List.foldl_append]
  simp [List.getD_eq_getElem?_getD, h]
theorem chkA_at {R n m : Nat} (h : VJ R n m) {X : Nat} (hX : X < waysJ (n + m) R) : chkX R n m X = true ∧ ∀ x ∈ xsJ R n, ∀ y ∈ ysJ R n m, ∀ Y, Y < (stJ R n m X R).many → chkP R n m x y X Y = true := by
  have hc := allJ_at chkA_all h.r1 h.r2 h.nm h.le
  unfold chkA at hc
  rw [Bool.and_eq_true] at hc
  have h1 := List.all_eq_true.1 hc.1 X (List.mem_range.2 hX)
  rw [Bool.and_eq_true] at h1
  refine ⟨h1.1, fun x hx y hy Y hY => ?_⟩
  have h2 := List.all_eq_true.1 h1.2 x hx
  have h3 := List.all_eq_true.1 h2 y hy
  exact List.all_eq_true.1 h3 Y (List.mem_range.2 hY)
theorem ways_le {R n m : Nat} (h : VJ R n m) : waysJ (n + m) R ≤ 20 := by
  have hc := allJ_at chkA_all h.r1 h.r2 h.nm h.le
  unfold chkA at hc
  rw [Bool.and_eq_true] at hc
  exact of_decide_eq_true hc.2
theorem fitJ {R n m : Nat} (h : VJ R n m) {X : Nat} (hX : X < waysJ (n + m) R) {k : Nat} (hk : k ≤ R) : (stJ R n m X k).na ≤ 5 ∧ (stJ R n m X k).nb ≤ 5 ∧ (stJ R n m X k).ha ≤ 5 ∧ (stJ R n m X k).hb ≤ 5 ∧ 1 ≤ (stJ R n m X k).many ∧ (stJ R n m X k).many ≤ 25 ∧ ∀ o ∈ (stJ R n m X k).own, 1 ≤ o ∧ o ≤ 5 := by
  have h1 := (chkA_at h hX).1
  unfold chkX at h1
  rw [Bool.and_eq_true] at h1
  have h2 := List.all_eq_true.1 h1.2 k (List.mem_range.2 (by omega))
  simp only [OS.fit, Bool.and_eq_true, decide_eq_true_eq, List.all_eq_true] at h2
  obtain ⟨⟨⟨⟨⟨⟨a, b⟩, c⟩, d⟩, e⟩, f⟩, g⟩ := h2
  exact ⟨a, b, c, d, e, f, g⟩
theorem okJ {R n m : Nat} (h : VJ R n m) {X : Nat} (hX : X < waysJ (n + m) R) {k : Nat} (hk : k < R) : ((stJ R n m X k).na ≤ (dsJ R n m X).getD k 0 → 1 ≤ (stJ R n m X k).nb ∧ 1 ≤ (stJ R n m X k).hb) ∧ ((dsJ R n m X).getD k 0 < (stJ R n m X k).na → 1 ≤ (stJ R n m X k).na ∧ 1 ≤ (stJ R n m X k).ha) := by
  have h1 := (chkA_at h hX).1
  unfold chkX at h1
  rw [Bool.and_eq_true] at h1
  have h2 := List.all_eq_true.1 h1.1 k (List.mem_range.2 hk)
  unfold OS.ok at h2
  constructor
  · intro h3
    rw [if_pos h3] at h2
    simp only [Bool.and_eq_true, decide_eq_true_eq] at h2
    exact h2
  · intro h3
    rw [if_neg (by omega)] at h2
    simp only [Bool.and_eq_true, decide_eq_true_eq] at h2
    exact h2
theorem polJ_ok {R n m : Nat} (h : VJ R n m) {X : Nat} (hX : X < waysJ (n + m) R) {x y : List Nat} (hx : x ∈ xsJ R n) (hy : y ∈ ysJ R n m) {Y : Nat} (hY : Y < (stJ R n m X R).many) :
    polJ R n m x y X Y = (((R : Int), ((n + m : Nat) : Int), inN (resJ R n m x y X Y)), 0) ∧ ∀ z ∈ resJ R n m x y X Y, z < 6 := by
  have h1 := (chkA_at h hX).2 x hx y hy Y hY
  unfold chkP at h1
  rw [Bool.and_eq_true] at h1
  refine ⟨of_decide_eq_true h1.1, fun z hz => ?_⟩
  have := of_decide_eq_true (List.all_eq_true.1 h1.2 z hz)
  omega
/-- Few and light. -/
def WOK (U : List (Nat × Nat)) (B : Nat) : Prop := U.length ≤ B ∧ ∀ p ∈ U, p.2 ≤ 720720
theorem WOK.sum {U : List (Nat × Nat)} {B : Nat} (h : WOK U B) (hB : B ≤ 300000) (s : Nat) : wsum U s ≤ 216216000000 := by
  have h1 := wsum_le h.2 s
  have h2 := h.1
  have h3 : 720720 * U.length ≤ 720720 * 300000 := Nat.mul_le_mul (Nat.le_refl _) (by omega)
  omega
theorem WOK.mono {U : List (Nat × Nat)} {B C : Nat} (h : WOK U B) (hB : B ≤ C) : WOK U C := ⟨Nat.le_trans h.1 hB, h.2⟩
theorem WOK.uY {R n m : Nat} {x y : List Nat} {X : Nat} {S : List (Nat × Nat)} {B : Nat} (h : WOK S B) : ∀ Y, WOK (uY R n m x y X Y S) (B + Y)
  | 0 => h
  | Y + 1 => by
    have h1 := WOK.uY (R := R) (n := n) (m := m) (x := x) (y := y) (X := X) h Y
    refine ⟨?_, ?_⟩
    · have := h1.1
      show (_ :: _).length ≤ _
      rw [List.length_cons]
      omega
    · intro p hp
      rcases List.mem_cons.1 hp with rfl | hp
      · exact Nat.div_le_self _ _
      · exact h1.2 p hp
theorem WOK.uX {R n m : Nat} (hv : VJ R n m) {x y : List Nat} {S : List (Nat × Nat)} {B : Nat} (h : WOK S B) : ∀ X, X ≤ waysJ (n + m) R → WOK (uX R n m x y X S) (B + 25 * X)
  | 0, _ => h
  | X + 1, hX => by
    have h1 := WOK.uX hv (x := x) (y := y) h X (by omega)
    have h2 := (fitJ hv (X := X) (by omega) (Nat.le_refl R)).2.2.2.2.2.1
    exact (WOK.uY (R := R) (n := n) (m := m) (x := x) (y := y) (X := X) h1 _).mono (by omega)
theorem WOK.uB {R n m : Nat} (hv : VJ R n m) {x : List Nat} {S : List (Nat × Nat)} {B : Nat} (h : WOK S B) : ∀ j, WOK (uB R n m x j S) (B + 500 * j)
  | 0 => h
  | j + 1 => by
    have h1 := WOK.uB hv (x := x) h j
    have h2 := ways_le hv
    exact (WOK.uX hv h1 _ (Nat.le_refl _)).mono (by omega)
theorem sizesJ {R n m : Nat} (h : VJ R n m) : (xsJ R n).length ≤ 20 ∧ (ysJ R n m).length ≤ 20 := by
  have hc := allJ_at chkC_all h.r1 h.r2 h.nm h.le
  simp only [chkC, Bool.and_eq_true, decide_eq_true_eq] at hc
  exact ⟨hc.1.2, hc.2⟩
theorem WOK.uA {R n m : Nat} (hv : VJ R n m) : ∀ i, WOK (uA R n m i) (10000 * i)
  | 0 => ⟨Nat.zero_le _, fun p hp => by cases hp⟩
  | i + 1 => by
    have h1 := WOK.uA hv i
    have h2 := (sizesJ hv).2
    exact (WOK.uB hv h1 _).mono (by omega)
/-- Each set as often as each other, and as many as there are. -/
theorem evenJ {R n m : Nat} (h : VJ R n m) : (dd ((uA R n m (xsJ R n).length).map Prod.fst)).length = bc (n + m) R ∧ ∃ V : Nat, ∀ s ∈ (uA R n m (xsJ R n).length).map Prod.fst, wsum (uA R n m (xsJ R n).length) s = V := by
  have hc := allJ_at chkC_all h.r1 h.r2 h.nm h.le
  simp only [chkC, Bool.and_eq_true, decide_eq_true_eq, List.all_eq_true] at hc
  exact ⟨hc.1.1.1.2, _, fun s hs => hc.1.1.2 s ((mem_dd _).2 hs)⟩
end Go.Proofs.Ytjhcbjpbmbjgoaa
