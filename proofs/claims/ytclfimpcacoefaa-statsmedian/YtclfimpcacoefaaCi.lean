/- slices.Clone of integers. -/
import Derived.Test.YtclfimpcacoefaaOi
import Derived.Laws.AppendOwn
import Derived.Laws.IdiomCopy
import Derived.Lib.SliceRun
namespace Go.Proofs.Ytclfimpcacoefaa
open Go.RowKit Go.Deep

def ClPost (w : World) (l : List Int) (e : Ending) (w' : World) : Prop :=
  ∃ (g cap : Nat) (ys : List Value), e = .returned (.slice (some ⟨g, 0, none⟩) l.length cap) ∧ w.heap.size ≤ g ∧ Bs 3 w' g ys ∧ ys.length = cap ∧ cap ≤ 9223372036854775807 ∧ ys.take l.length = ivs l ∧ Below w.heap.size w w'

set_option maxRecDepth 100000 in
set_option maxHeartbeats 2000000 in
theorem cloneI_any (A : Option Addr) (ca : Nat) (l : List Int) (w : World) (hl : IP w A ca l) (h0 : 0 < l.length) (hb : l.length < 17592186044416) :
    Calls Try.prog 23 #[.slice A l.length ca] w (ClPost w l) := by
  have q22 : ∀ (w : World) (a : Option Addr) (n c n' c' : Nat), (binOp .eql 22 (.slice a n c) (.slice none n' c')).run Try.prog w = .ok (.bool a.isNone) w := fun w a n c n' c' => Lib.run_eql_slice_nil w _ _ a n c n' c' Try.underlying22
  obtain ⟨b, off, rfl, _, hc⟩ := hl.il.at h0
  obtain ⟨i0, hi0, hz0, hz1, hz2⟩ := info_parts info_int
  have H := Lib.hid hc
  clear hl hc
  go_enter Try.func23, Try.ntmps23
  go_wp2_with (at_builtin; refine wpList_append_own _ rfl _ _ 22 rfl w.heap.size 3 i0 (.int .i64 0) 1 8 Try.underlying22 hi0 hz0 hz1 hz2 rfl (by decide) _ _ _ rfl (World.ownsRow_made w #[] 0 (Nat.le_refl _) (Nat.zero_le _) rfl) ⟨b, off, none⟩ l.length ca (ivs l) rfl ?qc1 ?qc2 ?qc3 ?qc4 ?qc5 ?qc6 ?_)
  case qc1 => simp [ivs]
  case qc2 =>
    intro j u hj
    have hj2 : j < l.length := by have := (List.getElem?_eq_some_iff.1 hj).1; rwa [ivs_len] at this
    rw [Addr.add_lit]
    refine Lib.cell?_alloc_some _ ?_
    rw [H.out j hj2, ← hj, ivs_at hj2]
  case qc3 => intro u hu; obtain ⟨x, _, rfl⟩ := List.mem_map.1 hu; rfl
  case qc4 => unfold maxLen; omega
  case qc5 => omega
  case qc6 => simp
  intro v' w1 hown hgrow hnil
  go_wp2
  go_ret
  have hB : Below w.heap.size w w1 := ((Below.refl _ w).alloc (Nat.le_refl _) _).grown hgrow (by simp) (by intro k hk; simp [Value.ownBlock] at hk; omega)
  rcases hown.2 with ⟨rfl, h0'⟩ | ⟨g, cap, cur, rfl, hg, hgb, hc, hcm, hcs, htk⟩
  · exact absurd rfl hnil
  · refine ⟨g, cap, cur.toList, by simp, hg, by simpa [Bs] using hgb, by simpa using hcs, by unfold maxLen at hcm; omega, ?_, hB⟩
    simpa using htk

set_option maxRecDepth 100000 in
set_option maxHeartbeats 2000000 in
theorem cloneO_any (A : Option Addr) (ca : Nat) (l : List Int) (w : World) (hl : IP w A ca l) (h0 : 0 < l.length) (hb : l.length < 17592186044416) :
    Calls Try.prog 23 #[.slice A l.length ca] w fun e w' => ∃ v, e = .returned v ∧ OI w' w.heap.size v l ∧ Below w.heap.size w w' := by
  have q22 : ∀ (w : World) (a : Option Addr) (n c n' c' : Nat), (binOp .eql 22 (.slice a n c) (.slice none n' c')).run Try.prog w = .ok (.bool a.isNone) w := fun w a n c n' c' => Lib.run_eql_slice_nil w _ _ a n c n' c' Try.underlying22
  obtain ⟨b, off, rfl, _, hc⟩ := hl.il.at h0
  obtain ⟨i0, hi0, hz0, hz1, hz2⟩ := info_parts info_int
  have H := Lib.hid hc
  clear hl hc
  go_enter Try.func23, Try.ntmps23
  go_wp2_with (at_builtin; refine wpList_append_own _ rfl _ _ 22 rfl w.heap.size 3 i0 (.int .i64 0) 1 8 Try.underlying22 hi0 hz0 hz1 hz2 rfl (by decide) _ _ _ rfl (World.ownsRow_made w #[] 0 (Nat.le_refl _) (Nat.zero_le _) rfl) ⟨b, off, none⟩ l.length ca (ivs l) rfl ?qc1 ?qc2 ?qc3 ?qc4 ?qc5 ?qc6 ?_)
  case qc1 => simp [ivs]
  case qc2 =>
    intro j u hj
    have hj2 : j < l.length := by have := (List.getElem?_eq_some_iff.1 hj).1; rwa [ivs_len] at this
    rw [Addr.add_lit]
    refine Lib.cell?_alloc_some _ ?_
    rw [H.out j hj2, ← hj, ivs_at hj2]
  case qc3 => intro u hu; obtain ⟨x, _, rfl⟩ := List.mem_map.1 hu; rfl
  case qc4 => unfold maxLen; omega
  case qc5 => omega
  case qc6 => simp
  intro v' w1 hown hgrow hnil
  go_wp2
  go_ret
  have hB : Below w.heap.size w w1 := ((Below.refl _ w).alloc (Nat.le_refl _) _).grown hgrow (by simp) (by intro k hk; simp [Value.ownBlock] at hk; omega)
  refine ⟨_, rfl, ?_, hB⟩
  unfold OI
  simpa using hown
end Go.Proofs.Ytclfimpcacoefaa
