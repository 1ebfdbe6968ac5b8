/- Heaps of words: the mathematics; slices.siftDownOrdered. -/
import Derived.Test.YtnihcpaakbhpcaaSo2
namespace Go.Proofs.Ytnihcpaakbhpcaa
open Go.RowKit Go.Deep

/-- [f, f + hi) is a heap from lo on. -/
def Hp (l : List W64) (f lo hi : Nat) : Prop := ∀ c, 0 < c → c < hi → lo ≤ (c - 1) / 2 → ky l (f + c) ≤ ky l (f + (c - 1) / 2)
/-- .. but at r. -/
structure HpX (l : List W64) (f lo hi r : Nat) : Prop where
  h : ∀ c, 0 < c → c < hi → lo ≤ (c - 1) / 2 → (c - 1) / 2 ≠ r → ky l (f + c) ≤ ky l (f + (c - 1) / 2)
  g : ∀ c, 0 < c → c < hi → (c - 1) / 2 = r → 0 < r → lo ≤ (r - 1) / 2 → ky l (f + c) ≤ ky l (f + (r - 1) / 2)
theorem HpX.start {l : List W64} {f lo hi : Nat} (h : Hp l f (lo + 1) hi) : HpX l f lo hi lo := by
  refine ⟨fun c h1 h2 h3 h4 => h c h1 h2 (by omega), fun c h1 h2 h3 h4 h5 => by omega⟩
theorem HpX.done {l : List W64} {f lo hi r : Nat} (h : HpX l f lo hi r) (he : ∀ c, c = 2 * r + 1 ∨ c = 2 * r + 2 → c < hi → ky l (f + c) ≤ ky l (f + r)) : Hp l f lo hi := by
  intro c h1 h2 h3
  by_cases e : (c - 1) / 2 = r
  · rw [e]; exact he c (by omega) h2
  · exact h.h c h1 h2 h3 e
theorem HpX.step {l : List W64} {f lo hi r ch : Nat} (h : HpX l f lo hi r) (hr : lo ≤ r) (hc : ch = 2 * r + 1 ∨ ch = 2 * r + 2) (hch : ch < hi) (hl : f + hi ≤ l.length) (hlt : ky l (f + r) < ky l (f + ch)) (hg : ∀ c, c = 2 * r + 1 ∨ c = 2 * r + 2 → c < hi → ky l (f + c) ≤ ky l (f + ch)) : HpX (sw l (f + r) (f + ch)) f lo hi ch := by
  have E : ∀ c, c < hi → ky (sw l (f + r) (f + ch)) (f + c) = if c = ch then ky l (f + r) else if c = r then ky l (f + ch) else ky l (f + c) := fun c hc2 => by
    rw [sw_ky (by omega) (by omega)]
    by_cases e1 : c = ch
    · rw [if_pos (by omega), if_pos e1]
    · rw [if_neg (by omega), if_neg e1]
      by_cases e2 : c = r
      · rw [if_pos (by omega), if_pos e2]
      · rw [if_neg (by omega), if_neg e2]
  refine ⟨fun c h1 h2 h3 h4 => ?_, fun c h1 h2 h3 h4 h5 => ?_⟩
  · rw [E c h2, E ((c - 1) / 2) (by omega), if_neg h4]
    by_cases e1 : c = ch
    · rw [if_pos e1, if_pos (by omega)]; omega
    · rw [if_neg e1]
      by_cases e2 : c = r
      · rw [if_pos e2, if_neg (by omega)]
        subst e2
        exact h.g ch (by omega) hch (by omega) (by omega) h3
      · rw [if_neg e2]
        by_cases e3 : (c - 1) / 2 = r
        · rw [if_pos e3]; exact hg c (by omega) h2
        · rw [if_neg e3]; exact h.h c h1 h2 h3 e3
  · have e4 : (ch - 1) / 2 = r := by omega
    rw [e4, E c h2, E r (by omega), if_neg (by omega), if_neg (by omega), if_neg (by omega), if_pos rfl]
    have := h.h c h1 h2 (by omega) (by omega)
    rw [h3] at this
    exact this
theorem Hp.max {l : List W64} {f hi : Nat} (h : Hp l f 0 hi) : ∀ c, c < hi → ky l (f + c) ≤ ky l f := by
  intro c
  induction c using Nat.strongRecOn with
  | _ c ih =>
    intro hc
    by_cases h0 : c = 0
    · subst h0; exact Nat.le_refl _
    · exact Nat.le_trans (h c (by omega) hc (by omega)) (ih ((c - 1) / 2) (by omega) (by omega))
theorem Hp.none {l : List W64} {f hi lo : Nat} (h : hi ≤ 2 * lo + 1) : Hp l f lo hi := fun c h1 h2 h3 => by omega
/-- The greatest goes to the end. -/
theorem Hp.pop {l : List W64} {f i : Nat} (h : Hp l f 0 (i + 1)) (hl : f + (i + 1) ≤ l.length) : Hp (sw l f (f + i)) f 1 i := by
  intro c h1 h2 h3
  rw [sw_ky (by omega) (by omega), sw_ky (by omega) (by omega), if_neg (by omega), if_neg (by omega), if_neg (by omega), if_neg (by omega)]
  exact h c h1 (by omega) (by omega)
theorem Jn.pop {l : List W64} {a b i : Nat} (h : Jn l a b a (a + (i + 1))) (hh : Hp l a 0 (i + 1)) (hb : a + (i + 1) ≤ b) (hl : b ≤ l.length) : Jn (sw l a (a + i)) a b a (a + i) := by
  have h2 := h.keep (.one (i := a) (j := a + i) (Nat.le_refl _) (by omega) (by omega) (by omega) (by omega)) (Nat.le_refl _) hb
  intro p q p1 p2 p3 p4
  by_cases e : q = a + i
  · have e2 : ky (sw l a (a + i)) q = ky l a := by rw [sw_ky (by omega) (by omega), if_pos e]
    rw [e2, sw_ky (by omega) (by omega), if_neg (by omega)]
    by_cases e3 : p = a
    · rw [if_pos e3]; exact hh.max i (by omega)
    · rw [if_neg e3]
      have := hh.max (p - a) (by omega)
      rwa [show a + (p - a) = p by omega] at this
  · exact h2 p q p1 p2 p3 (by omega)
end Go.Proofs.Ytnihcpaakbhpcaa
