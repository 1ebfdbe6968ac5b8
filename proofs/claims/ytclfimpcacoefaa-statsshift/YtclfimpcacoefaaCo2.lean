/- slices.Concat of two slices of integers: the result is the call's own. -/
import Derived.Test.YtclfimpcacoefaaCcI
import Derived.Test.YtclfimpcacoefaaOi
namespace Go.Proofs.Ytclfimpcacoefaa
open Go.RowKit Go.Deep

theorem crel_oi {w w' : World} {v : Value} {l : List Int} (h : CRel_int w (ivs l).length v (ivs l) w') : OI w' w.heap.size v l ∧ Below w.heap.size w w' := by
  refine ⟨⟨by simp [ivs_len], ?_⟩, h.1⟩
  rcases h.2 with ⟨h0, rfl, _⟩ | ⟨g, cur, rfl, hg, hB, h1, h2, h3⟩
  · rw [ivs_len] at h0
    exact .inl ⟨by rfl, h0⟩
  · rw [ivs_len] at *
    refine .inr ⟨g, cur.length, cur.toArray, rfl, hg, hB, h1, h2, by simp, by simpa using h3⟩
theorem concat_oi (g : Nat) (A1 A2 : Option Addr) (c1 c2 : Nat) (xs ys : List Int) (w : World) (hg : g < w.heap.size) (k1 : w.cell? ⟨g, 0, none⟩ = some (.slice A1 xs.length c1)) (k2 : w.cell? ⟨g, 1, none⟩ = some (.slice A2 ys.length c2)) (hx : IP w A1 c1 xs) (hy : IP w A2 c2 ys) (hb : (xs.length + ys.length) * 8 ≤ 281474976710656) :
    Calls Try.prog 24 #[.slice (some ⟨g, 0, none⟩) 2 2] w fun e w' => ∃ v, e = .returned v ∧ OI w' w.heap.size v (xs ++ ys) ∧ Below w.heap.size w w' := by
  have one : ∀ (l : List Int), ∀ u ∈ ivs l, u.oneCell' = true := fun l u hu => by
    simp only [ivs, List.mem_map] at hu
    obtain ⟨x, _, rfl⟩ := hu
    rfl
  have nn : ∀ {A : Option Addr} {c : Nat} {l : List Int}, IP w A c l → A = none → ivs l = [] := fun {A c l} h e => by
    have h1 := h.none e
    have h2 := h.le
    have : l = [] := List.eq_nil_of_length_eq_zero (by omega)
    rw [this]; rfl
  have h := concat_rel_int g A1 A2 c1 c2 (ivs xs) (ivs ys) w hg (by rw [ivs_len]; exact k1) (by rw [ivs_len]; exact k2) hx.il hy.il (one xs) (one ys) (nn hx) (nn hy) (by rw [ivs_len, ivs_len]; exact hb)
  refine h.mono ?_
  rintro e w' ⟨v, rfl, hC⟩
  rw [← ivs_append] at hC
  obtain ⟨h1, h2⟩ := crel_oi hC
  exact ⟨v, rfl, h1, h2⟩
end Go.Proofs.Ytclfimpcacoefaa
