/- join.draw: what stays while it draws. -/
import Derived.Test.YtjhcbjpbmbjgoaaJ3
import Derived.Laws.MakeOwn
namespace Go.Proofs.Ytjhcbjpbmbjgoaa
open Go.RowKit Go.Deep

theorem delete_own (v : Value) (B c : Nat) (u : List Int) (w : World) (h : OI w B v u) (hc : c < u.length) :
    Calls Try.prog 43 #[v, .int .i64 c, .int .i64 ((c : Int) + 1)] w fun e w' => ∃ v', e = .returned v' ∧ OI w' B v' (u.eraseIdx c) ∧ v'.ownBlock = v.ownBlock ∧ Below B w w' ∧ ∀ k, k < w.heap.size → v.ownBlock ≠ some k → w'.heap[k]? = w.heap[k]? := by
  rcases h.2 with ⟨rfl, h1⟩ | ⟨g, cap, cur, rfl, hB, hg, hc1, hcm, hcs, ht⟩
  · omega
  · have hb : Bs 3 w g cur.toList := by simpa [Bs] using hg
    have hcap : cap ≤ 9223372036854775807 := by unfold maxLen at hcm; omega
    refine (deleteB_any g cap c u cur.toList w hb (by simpa using hcs) (by simpa using ht) hc (by omega)).mono ?_
    rintro e w' ⟨rfl, hbel, hblk, cur2, hb2, hl2, ht2⟩
    refine ⟨_, rfl, ?_, rfl, hbel.mono hB, fun k hk hne => hblk k hk (fun e => hne (by rw [e]; rfl))⟩
    have hle : (u.eraseIdx c).length ≤ cap := by
      have : (u.eraseIdx c).length ≤ u.length := List.length_eraseIdx_le u c
      omega
    exact ⟨by simp [ivs_len], .inr ⟨g, cap, cur2.toArray, rfl, hB, hb2, hle, hcm, by simpa using hl2, by simpa using ht2⟩⟩
/-- A block that is no slice of integers. -/
theorem OI.neB {w : World} {B T g : Nat} {v : Value} {xs : List Int} {vs : List Value} (h : OI w B v xs) (hT : T ≠ 3) (hg : Bs T w g vs) : v.ownBlock ≠ some g := by
  intro e
  rcases h.2 with ⟨rfl, _⟩ | ⟨g', cap, cur, rfl, hB, hh, _⟩
  · cases e
  · simp [Value.ownBlock] at e
    subst e
    unfold Bs at hg
    rw [hh] at hg
    simp at hg
    exact hT hg.2.symm
theorem OI.of_block {w w' : World} {B : Nat} {v : Value} {xs : List Int} (h : OI w B v xs) (hb : ∀ k, k < w.heap.size → v.ownBlock = some k → w'.heap[k]? = w.heap[k]?) : OI w' B v xs := by
  refine ⟨h.1, ?_⟩
  rcases h.2 with h | ⟨g, cap, cur, rfl, hB, hg, h1, h2, h3, h4⟩
  · exact .inl h
  · exact .inr ⟨g, cap, cur, rfl, hB, (hb g (lt_of_block hg) rfl).trans hg, h1, h2, h3, h4⟩
theorem OI.made (w : World) (L : Nat) (hL : L ≤ 1000) : OI (w.alloc (.cells (madeCells #[.int .i64 0] L) 3)) w.heap.size (.slice (some ⟨w.heap.size, 0, none⟩) 0 L) [] := by
  have hb : Bs 3 (w.alloc (.cells (madeCells #[.int .i64 0] L) 3)) w.heap.size (List.replicate L (.int .i64 0)) := Bs.made 3 w (.int .i64 0) L
  refine ⟨rfl, .inr ⟨w.heap.size, L, (List.replicate L (Value.int .i64 0)).toArray, rfl, Nat.le_refl _, hb, by simp, by unfold maxLen; omega, by simp, by simp [ivs]⟩⟩

theorem run_make0 (L : Nat) (hL : L ≤ 1000) (w : World) : (Instr.makeSlice 26 (.int .i64 0) (.int .i64 (L : Int))).run Try.prog w = .ok (.slice (some ⟨w.heap.size, 0, none⟩) 0 L) (w.alloc (.cells (madeCells #[.int .i64 0] L) 3)) := by
  obtain ⟨i0, hi0, hz0, hz1, hz2⟩ := info_parts info_int
  have hr := run_make (P := Try.prog) w 26 3 i0 (.int .i64 0) Try.underlying26 hi0 hz0 .i64 .i64 0 L (Int.le_refl _) (by omega) (by rw [hz2]; omega) (by omega)
  rw [hz1] at hr
  rw [show (Value.int .i64 0).cells = #[.int .i64 0] from rfl] at hr
  simpa using hr
/-- The samples, what has been selected, and the variable with the streams. -/
structure DW (B G : Nat) (w0 : World) (na nb : Int) (va vb hv : Value) (xs ys acc : List Int) (w : World) : Prop where
  a : OI w B va xs
  b : OI w B vb ys
  h : OI w B hv acc
  ab : apartV va vb
  ah : apartV va hv
  bh : apartV vb hv
  q : QB w G na va nb vb
  g : B ≤ G
  bl : Below B w0 w
theorem DW.later {B G : Nat} {w0 : World} {na nb : Int} {va vb hv : Value} {xs ys acc : List Int} {w w' : World} (h : DW B G w0 na nb va vb hv xs ys acc w) (hB : B ≤ w.heap.size) (hb : Below w.heap.size w w') : DW B G w0 na nb va vb hv xs ys acc w' :=
  ⟨h.a.later hb, h.b.later hb, h.h.later hb, h.ab, h.ah, h.bh, Bs.below h.q hb (Bs.lt h.q), h.g, h.bl.trans (hb.mono hB)⟩
theorem DW.drew {B G : Nat} {w0 : World} {na nb : Int} {va vb hv : Value} {xs ys acc : List Int} {w : World} (h : DW B G w0 na nb va vb hv xs ys acc w) : DW B G w0 na nb va vb hv xs ys acc w.drew :=
  ⟨h.a, h.b, h.h, h.ab, h.ah, h.bh, h.q, h.g, h.bl.drew⟩
theorem DW.push {B G : Nat} {w0 : World} {na nb : Int} {va vb hv : Value} {xs ys acc acc2 : List Int} {w w' : World} {o : Obj} {g n cap : Nat} (h : DW B G w0 na nb va vb hv xs ys acc w) (hO : OI w' B (.slice (some ⟨g, 0, none⟩) n cap) acc2) (hB : Below B w0 w')
    (hg : (w.alloc o).grownBy w' hv.ownBlock) (hl : hv.ownBlock = some g ∨ g = w.heap.size + 1) : DW B G w0 na nb va vb (.slice (some ⟨g, 0, none⟩) n cap) xs ys acc2 w' := by
  have hap : ∀ {v : Value} {zs : List Int}, OI w B v zs → apartV v hv → apartV v (.slice (some ⟨g, 0, none⟩) n cap) := by
    intro v zs ho ha k hk e
    simp only [Value.ownBlock] at e
    injection e with e
    subst e
    rcases hl with hl | hl
    · exact ha _ hk hl
    · have := (World.ownsRow.lt ho _ hk).2
      omega
  have hne := h.h.neB (T := 70) (by decide) h.q
  have hq : QB (w.alloc o) G na va nb vb := (Below.heap_alloc w o G (Bs.lt h.q)).trans h.q
  exact ⟨h.ah.symm.kept (h.a.alloc o) hg, h.bh.symm.kept (h.b.alloc o) hg, hO, h.ab, hap h.a h.ah, hap h.b h.bh, (hg.block G (Bs.lt hq) (fun e => hne e.symm)).trans hq, h.g, hB⟩
theorem QB.setA {w : World} {g : Nat} {na nb : Int} {va vb : Value} (h : QB w g na va nb vb) (n : Int) (v : Value) : QB ((w.setCell ⟨g, 0, none⟩ (.int .i64 n)).setCell ⟨g, 1, none⟩ v) g n v nb vb := Bs.set (Bs.set h 0 (.int .i64 n)) 1 v
theorem QB.setB {w : World} {g : Nat} {na nb : Int} {va vb : Value} (h : QB w g na va nb vb) (n : Int) (v : Value) : QB ((w.setCell ⟨g, 2, none⟩ (.int .i64 n)).setCell ⟨g, 3, none⟩ v) g na va n v := Bs.set (Bs.set h 2 (.int .i64 n)) 3 v
theorem DW.delA {B G : Nat} {w0 : World} {na nb : Int} {va vb hv v : Value} {xs ys acc zs : List Int} {w w' : World} (h : DW B G w0 na nb va vb hv xs ys acc w) (hO : OI w' B v zs) (e : v.ownBlock = va.ownBlock) (hB : Below B w w') (hk : ∀ k, k < w.heap.size → va.ownBlock ≠ some k → w'.heap[k]? = w.heap[k]?) :
    QB w' G na va nb vb ∧ ∀ n, DW B G w0 n nb v vb hv zs ys acc ((w'.setCell ⟨G, 0, none⟩ (.int .i64 n)).setCell ⟨G, 1, none⟩ v) := by
  have hq : QB w' G na va nb vb := (hk G (Bs.lt h.q) (h.a.neB (T := 70) (by decide) h.q)).trans h.q
  have hb2 := h.b.of_block (w' := w') (fun k h1 h2 => hk k h1 (fun h3 => h.ab k h3 h2))
  have hh2 := h.h.of_block (w' := w') (fun k h1 h2 => hk k h1 (fun h3 => h.ah k h3 h2))
  have n1 := hO.neB (T := 70) (by decide) hq
  have n2 := hb2.neB (T := 70) (by decide) hq
  have n3 := hh2.neB (T := 70) (by decide) hq
  refine ⟨hq, fun n => ⟨?_, ?_, ?_, ?_, ?_, h.bh, hq.setA n v, h.g, ?_⟩⟩
  · exact ownsRow_setCell_other (ownsRow_setCell_other hO n1 _) n1 _
  · exact ownsRow_setCell_other (ownsRow_setCell_other hb2 n2 _) n2 _
  · exact ownsRow_setCell_other (ownsRow_setCell_other hh2 n3 _) n3 _
  · exact fun k h1 => h.ab k (e ▸ h1)
  · exact fun k h1 => h.ah k (e ▸ h1)
  · exact ((h.bl.trans hB).setCell (p := ⟨G, 0, none⟩) h.g _).setCell (p := ⟨G, 1, none⟩) h.g _
theorem DW.delB {B G : Nat} {w0 : World} {na nb : Int} {va vb hv v : Value} {xs ys acc zs : List Int} {w w' : World} (h : DW B G w0 na nb va vb hv xs ys acc w) (hO : OI w' B v zs) (e : v.ownBlock = vb.ownBlock) (hB : Below B w w') (hk : ∀ k, k < w.heap.size → vb.ownBlock ≠ some k → w'.heap[k]? = w.heap[k]?) :
    QB w' G na va nb vb ∧ ∀ n, DW B G w0 na n va v hv xs zs acc ((w'.setCell ⟨G, 2, none⟩ (.int .i64 n)).setCell ⟨G, 3, none⟩ v) := by
  have hq : QB w' G na va nb vb := (hk G (Bs.lt h.q) (h.b.neB (T := 70) (by decide) h.q)).trans h.q
  have hb2 := h.a.of_block (w' := w') (fun k h1 h2 => hk k h1 (fun h3 => h.ab k h2 h3))
  have hh2 := h.h.of_block (w' := w') (fun k h1 h2 => hk k h1 (fun h3 => h.bh k h3 h2))
  have n1 := hO.neB (T := 70) (by decide) hq
  have n2 := hb2.neB (T := 70) (by decide) hq
  have n3 := hh2.neB (T := 70) (by decide) hq
  refine ⟨hq, fun n => ⟨?_, ?_, ?_, ?_, h.ah, ?_, hq.setB n v, h.g, ?_⟩⟩
  · exact ownsRow_setCell_other (ownsRow_setCell_other hb2 n2 _) n2 _
  · exact ownsRow_setCell_other (ownsRow_setCell_other hO n1 _) n1 _
  · exact ownsRow_setCell_other (ownsRow_setCell_other hh2 n3 _) n3 _
  · exact fun k h1 h2 => h.ab k h1 (e ▸ h2)
  · exact fun k h1 => h.bh k (e ▸ h1)
  · exact ((h.bl.trans hB).setCell (p := ⟨G, 2, none⟩) h.g _).setCell (p := ⟨G, 3, none⟩) h.g _
end Go.Proofs.Ytjhcbjpbmbjgoaa
