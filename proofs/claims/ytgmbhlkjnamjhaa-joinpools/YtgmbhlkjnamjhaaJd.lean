/- lotdrawerref.GPools: what stays while it selects. -/
import Derived.Test.YtgmbhlkjnamjhaaJc
import Derived.Test.YtgmbhlkjnamjhaaZg
import Derived.Test.YtgmbhlkjnamjhaaPl
import Derived.Test.YtgmbhlkjnamjhaaMb
namespace Go.Proofs.Ytgmbhlkjnamjhaa
open Go.RowKit Go.Deep Go.Maps

theorem SetM.of_block {w w' : World} {b n : Nat} {S : Int → Bool} (h : SetM w b n S) (hb : w'.heap[b]? = w.heap[b]?) : SetM w' b n S := by
  obtain ⟨D, ⟨es, clock, h1, h2⟩, hc⟩ := h
  exact ⟨D, ⟨es, clock, hb.trans h1, h2⟩, hc⟩
theorem SetM.neOwn {w : World} {b n B : Nat} {S : Int → Bool} {v : Value} {xs : List Int} (h : SetM w b n S) (ho : OI w B v xs) : v.ownBlock ≠ some b := by
  intro e
  obtain ⟨D, ⟨es, clock, h1, _⟩, _⟩ := h
  rcases ho.2 with ⟨rfl, _⟩ | ⟨g, cap, cur, rfl, hB, hg, _⟩
  · cases e
  · simp [Value.ownBlock] at e
    subst e
    rw [hg] at h1
    simp at h1
theorem key_wf {y : Nat} (h : y < 1000000) : (Lit.int .i64 (y : Int)).wf = true := by
  simp [Lit.wf, IntKind.min, IntKind.max, IntKind.signed, IntKind.bits]; omega
theorem own_neB {w : World} {B T g : Nat} {v : Value} {xs : List Int} {vs : List Value} (h : OI w B v xs) (hT : T ≠ 3) (hg : Bs T w g vs) : v.ownBlock ≠ some g := by
  intro e
  rcases h.2 with ⟨rfl, _⟩ | ⟨g', cap, cur, rfl, hB, hh, _⟩
  · cases e
  · simp [Value.ownBlock] at e
    subst e
    unfold Bs at hg
    rw [hh] at hg
    simp at hg
    exact hT hg.2.symm

/-- The variables of the loop: out, left, both maps, gone. -/
structure GW (s : Nat) (w0 : World) (R M na nb : Int) (ka kb : Nat) (Sa Sb : Int → Bool) (hv : Value) (acc : List Int) (w : World) : Prop where
  h : OI w (s + 5) hv acc
  o : PB w s R M hv
  l : Bs 3 w (s + 1) [.int .i64 na, .int .i64 nb]
  ma : SetM w (s + 1 + 1) ka Sa
  mb : SetM w (s + 1 + 1 + 1) kb Sb
  g : Bs 50 w (s + 1 + 1 + 1 + 1) [.map (some (s + 1 + 1)), .map (some (s + 1 + 1 + 1))]
  bl : Below s w0 w
section
variable {s : Nat} {w0 : World} {R M na nb : Int} {ka kb : Nat} {Sa Sb : Int → Bool} {hv : Value} {acc : List Int} {w w' : World}
theorem GW.size (h : GW s w0 R M na nb ka kb Sa Sb hv acc w) : s + 5 ≤ w.heap.size := Bs.lt h.g
theorem GW.later (h : GW s w0 R M na nb ka kb Sa Sb hv acc w) (hb : Below w.heap.size w w') : GW s w0 R M na nb ka kb Sa Sb hv acc w' :=
  ⟨h.h.later hb, h.o.later hb, h.l.below hb (Bs.lt h.l), h.ma.of_block (hb.block _ h.ma.lt), h.mb.of_block (hb.block _ h.mb.lt), h.g.below hb (Bs.lt h.g), h.bl.trans (hb.mono (by have := h.size; omega))⟩
theorem GW.alloc (h : GW s w0 R M na nb ka kb Sa Sb hv acc w) (o : Obj) : GW s w0 R M na nb ka kb Sa Sb hv acc (w.alloc o) := h.later ((Below.refl _ _).alloc (Nat.le_refl _) _)
/-- A store into a variable of the round. -/
theorem GW.setP (h : GW s w0 R M na nb ka kb Sa Sb hv acc w) {p : Nat} (hp : s + 5 ≤ p) (hne : hv.ownBlock ≠ some p) (j : Nat) (x : Value) : GW s w0 R M na nb ka kb Sa Sb hv acc (w.setCell ⟨p, j, none⟩ x) := by
  have hk : ∀ k, k < s + 5 → (w.setCell ⟨p, j, none⟩ x).heap[k]? = w.heap[k]? := fun k hk => Below.heap_setCell _ _ _ _ (by show k ≠ p; omega)
  exact ⟨ownsRow_setCell_other h.h hne x, (hk s (by omega)).trans h.o, (hk _ (by omega)).trans h.l, h.ma.of_block (hk _ (by omega)), h.mb.of_block (hk _ (by omega)), (hk _ (by omega)).trans h.g, h.bl.setCell (p := ⟨p, j, none⟩) (by show s ≤ p; omega) x⟩
/-- 'gone[0][..] = true', 'left[0]--'. -/
theorem GW.putA (h : GW s w0 R M na nb ka kb Sa Sb hv acc w) {S : Int → Bool} {k : Nat} (hm : SetM w' (s + 1 + 1) k S) (hg : w.grownBy w' (some (s + 1 + 1))) : GW s w0 R M na nb k kb S Sb hv acc w' := by
  have hk : ∀ j, j < s + 5 → j ≠ s + 1 + 1 → w'.heap[j]? = w.heap[j]? := fun j h1 h2 => hg.block j (by have := h.size; omega) (fun e => h2 (by injection e))
  refine ⟨h.h.kept hg (.inr (h.ma.neOwn h.h)), (hk s (by omega) (by omega)).trans h.o, (hk _ (by omega) (by omega)).trans h.l, hm, h.mb.of_block (hk _ (by omega) (by omega)), (hk _ (by omega) (by omega)).trans h.g, h.bl.grown hg (by have := h.size; omega) (fun k e => by cases e; omega)⟩
theorem GW.putB (h : GW s w0 R M na nb ka kb Sa Sb hv acc w) {S : Int → Bool} {k : Nat} (hm : SetM w' (s + 1 + 1 + 1) k S) (hg : w.grownBy w' (some (s + 1 + 1 + 1))) : GW s w0 R M na nb ka k Sa S hv acc w' := by
  have hk : ∀ j, j < s + 5 → j ≠ s + 1 + 1 + 1 → w'.heap[j]? = w.heap[j]? := fun j h1 h2 => hg.block j (by have := h.size; omega) (fun e => h2 (by injection e))
  refine ⟨h.h.kept hg (.inr (h.mb.neOwn h.h)), (hk s (by omega) (by omega)).trans h.o, (hk _ (by omega) (by omega)).trans h.l, h.ma.of_block (hk _ (by omega) (by omega)), hm, (hk _ (by omega) (by omega)).trans h.g, h.bl.grown hg (by have := h.size; omega) (fun k e => by cases e; omega)⟩
theorem GW.setA (h : GW s w0 R M na nb ka kb Sa Sb hv acc w) (n : Int) : GW s w0 R M n nb ka kb Sa Sb hv acc (w.setCell ⟨s + 1, 0, none⟩ (.int .i64 n)) := by
  have hk : ∀ k, k ≠ s + 1 → (w.setCell ⟨s + 1, 0, none⟩ (.int .i64 n)).heap[k]? = w.heap[k]? := fun k hk => Below.heap_setCell _ _ _ _ hk
  have hne : hv.ownBlock ≠ some (s + 1) := fun e => by have := (World.ownsRow.lt h.h _ e).1; omega
  exact ⟨ownsRow_setCell_other h.h hne _, (hk _ (by omega)).trans h.o, Bs.set h.l 0 _, h.ma.of_block (hk _ (by omega)), h.mb.of_block (hk _ (by omega)), (hk _ (by omega)).trans h.g, h.bl.setCell (p := ⟨s + 1, 0, none⟩) (by show s ≤ s + 1; omega) _⟩
theorem GW.setB (h : GW s w0 R M na nb ka kb Sa Sb hv acc w) (n : Int) : GW s w0 R M na n ka kb Sa Sb hv acc (w.setCell ⟨s + 1, 1, none⟩ (.int .i64 n)) := by
  have hk : ∀ k, k ≠ s + 1 → (w.setCell ⟨s + 1, 1, none⟩ (.int .i64 n)).heap[k]? = w.heap[k]? := fun k hk => Below.heap_setCell _ _ _ _ hk
  have hne : hv.ownBlock ≠ some (s + 1) := fun e => by have := (World.ownsRow.lt h.h _ e).1; omega
  exact ⟨ownsRow_setCell_other h.h hne _, (hk _ (by omega)).trans h.o, Bs.set h.l 1 _, h.ma.of_block (hk _ (by omega)), h.mb.of_block (hk _ (by omega)), (hk _ (by omega)).trans h.g, h.bl.setCell (p := ⟨s + 1, 1, none⟩) (by show s ≤ s + 1; omega) _⟩
/-- 'out.Has = append(out.Has, ..)'. -/
theorem GW.push (h : GW s w0 R M na nb ka kb Sa Sb hv acc w) {o : Obj} {u : Value} {acc2 : List Int} (hO : OI w' (s + 5) u acc2) (hg : (w.alloc o).grownBy w' hv.ownBlock) : GW s w0 R M na nb ka kb Sa Sb u acc2 (w'.setCell ⟨s, 2, none⟩ u) := by
  have hA := h.alloc o
  have hne : ∀ k, k < s + 5 → some k ≠ hv.ownBlock := fun k hk e => by have := (World.ownsRow.lt h.h k e.symm).1; omega
  have hk : ∀ k, k < s + 5 → w'.heap[k]? = (w.alloc o).heap[k]? := fun k hk => hg.block k (by have := hA.size; omega) (hne k hk)
  have hk2 : ∀ k, k ≠ s → (w'.setCell ⟨s, 2, none⟩ u).heap[k]? = w'.heap[k]? := fun k hk => Below.heap_setCell _ _ _ _ hk
  have hk3 : ∀ k, k < s + 5 → k ≠ s → (w'.setCell ⟨s, 2, none⟩ u).heap[k]? = (w.alloc o).heap[k]? := fun k h1 h2 => (hk2 k h2).trans (hk k h1)
  have ho : PB w' s R M hv := (hk s (by omega)).trans hA.o
  have hus : u.ownBlock ≠ some s := fun e => by have := (World.ownsRow.lt hO _ e).1; omega
  refine ⟨ownsRow_setCell_other hO hus _, ho.set2 u, (hk3 _ (by omega) (by omega)).trans hA.l, hA.ma.of_block (hk3 _ (by omega) (by omega)), hA.mb.of_block (hk3 _ (by omega) (by omega)), (hk3 _ (by omega) (by omega)).trans hA.g, ?_⟩
  exact (hA.bl.grown hg (by have := hA.size; omega) (fun k e => by have := (World.ownsRow.lt h.h k e).1; omega)).setCell (p := ⟨s, 2, none⟩) (Nat.le_refl s) u
theorem GW.at (h : GW s w0 R M na nb ka kb Sa Sb hv acc w) : (w.cell? ⟨s + 1, 0, none⟩ = some (.int .i64 na) ∧ w.cell? ⟨s + 1, 1, none⟩ = some (.int .i64 nb) ∧ w.frozen? ⟨s + 1, 0, none⟩ = false ∧ w.frozen? ⟨s + 1, 1, none⟩ = false) ∧
    (w.cell? ⟨s + 1 + 1 + 1 + 1, 0, none⟩ = some (.map (some (s + 1 + 1))) ∧ w.cell? ⟨s + 1 + 1 + 1 + 1, 1, none⟩ = some (.map (some (s + 1 + 1 + 1)))) ∧ w.cell? ⟨s, 2, none⟩ = some hv ∧ w.frozen? ⟨s, 2, none⟩ = false :=
  ⟨⟨Bs.cell h.l (j := 0) (by simp), Bs.cell h.l (j := 1) (by simp), Bs.frozen h.l 0, Bs.frozen h.l 1⟩, ⟨Bs.cell h.g (j := 0) (by simp), Bs.cell h.g (j := 1) (by simp)⟩, h.o.at.2.2.1, h.o.at.2.2.2.2.2⟩
end
/-- The variables as they are made. -/
theorem GW.new (w : World) (R M P Q : Int) : GW w.heap.size w R M P Q 0 0 (fun _ => false) (fun _ => false) (.slice none 0 0) []
    (((((w.alloc (.cells #[.int .i64 R, .int .i64 M, .slice none 0 0] 24)).alloc (.cells #[.int .i64 P, .int .i64 Q] 3)).alloc (.map #[] 0)).alloc (.map #[] 0)).alloc (.cells #[.map (some (w.heap.size + 1 + 1)), .map (some (w.heap.size + 1 + 1 + 1))] 50)) := by
  have b0 : ∀ (w : World) (o : Obj), Below w.heap.size w (w.alloc o) := fun w o => (Below.refl _ _).alloc (Nat.le_refl _) _
  have p0 := PB.new w R M (.slice none 0 0)
  generalize h1 : w.alloc (.cells #[.int .i64 R, .int .i64 M, .slice none 0 0] 24) = w1 at *
  have s1 : w1.heap.size = w.heap.size + 1 := by rw [← h1]; simp
  have l0 : Bs 3 (w1.alloc (.cells #[.int .i64 P, .int .i64 Q] 3)) w1.heap.size [.int .i64 P, .int .i64 Q] := heap_alloc_new w1 _
  have b1 := b0 w1 (.cells #[.int .i64 P, .int .i64 Q] 3)
  generalize h2 : w1.alloc (.cells #[.int .i64 P, .int .i64 Q] 3) = w2 at *
  have s2 : w2.heap.size = w1.heap.size + 1 := by rw [← h2]; simp
  have m0 := SetM.made w2
  have b2 := b0 w2 (.map #[] 0)
  generalize h3 : w2.alloc (.map #[] 0) = w3 at *
  have s3 : w3.heap.size = w2.heap.size + 1 := by rw [← h3]; simp
  have m1 := SetM.made w3
  have b3 := b0 w3 (.map #[] 0)
  generalize h4 : w3.alloc (.map #[] 0) = w4 at *
  have s4 : w4.heap.size = w3.heap.size + 1 := by rw [← h4]; simp
  have g0 : Bs 50 (w4.alloc (.cells #[.map (some (w.heap.size + 1 + 1)), .map (some (w.heap.size + 1 + 1 + 1))] 50)) w4.heap.size [.map (some (w.heap.size + 1 + 1)), .map (some (w.heap.size + 1 + 1 + 1))] := heap_alloc_new w4 _
  have b4 := b0 w4 (.cells #[.map (some (w.heap.size + 1 + 1)), .map (some (w.heap.size + 1 + 1 + 1))] 50)
  have bw : Below w.heap.size w w1 := by rw [← h1]; exact b0 w _
  refine ⟨OI.nil _ _, (((p0.later b1).later b2).later b3).later b4, ?_, ?_, ?_, ?_, ?_⟩
  · have h := ((l0.below b2 (Bs.lt l0)).below b3 (by omega)).below b4 (by omega)
    rwa [s1] at h
  · have h := (m0.of_block (b3.block _ m0.lt)).of_block (b4.block _ (by omega))
    rwa [s2, s1] at h
  · have h := m1.of_block (b4.block _ m1.lt)
    rwa [s3, s2, s1] at h
  · rwa [s4, s3, s2, s1] at g0
  · exact ((((bw.trans (b1.mono (by omega))).trans (b2.mono (by omega))).trans (b3.mono (by omega))).trans (b4.mono (by omega)))
end Go.Proofs.Ytgmbhlkjnamjhaa
