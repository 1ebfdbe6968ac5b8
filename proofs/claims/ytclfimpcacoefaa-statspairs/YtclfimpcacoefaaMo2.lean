/- stats.Of. -/
import Derived.Test.YtclfimpcacoefaaMo0
namespace Go.Proofs.Ytclfimpcacoefaa
open Go.RowKit Go.Deep

/-- A list that Of takes. -/
def okl (l : List Int) : Prop := l.length ≤ 400 ∧ sin l
instance (l : List Int) : Decidable (sin l) := by unfold sin; infer_instance
instance (l : List Int) : Decidable (okl l) := by unfold okl; infer_instance
/-- What Of answers. -/
def ofT (l : List Int) : Value := if okl l then .tuple #[mmv l.length (ssum l) (ssq l), .int .i64 0] else .tuple #[mmv 0 0 0, .int .i64 2]
theorem ofT_ok {l : List Int} (h : okl l) : ofT l = .tuple #[.agg #[.int .i64 (l.length : Int), .int .i64 (ssum l), .int .i64 (ssq l)], .int .i64 0] := if_pos h
theorem ofT_no {l : List Int} (h : ¬ okl l) : ofT l = .tuple #[.agg #[.int .i64 0, .int .i64 0, .int .i64 0], .int .i64 2] := if_neg h
theorem ssum_succ {l : List Int} {k : Nat} (h : k < l.length) : ssum (l.take (k + 1)) = ssum (l.take k) + l.getD k 0 := by
  have e : l.take (k + 1) = l.take k ++ [l.getD k 0] := by
    rw [List.take_succ_eq_append_getElem h]
    simp [List.getD_eq_getElem?_getD, h]
  rw [e, ssum_app]; simp [ssum]
theorem ssq_succ {l : List Int} {k : Nat} (h : k < l.length) : ssq (l.take (k + 1)) = ssq (l.take k) + l.getD k 0 * l.getD k 0 := by
  have e : l.take (k + 1) = l.take k ++ [l.getD k 0] := by
    rw [List.take_succ_eq_append_getElem h]
    simp [List.getD_eq_getElem?_getD, h]
  rw [e, ssq_app]; simp [ssq]
theorem sin_succ {l : List Int} {k : Nat} (h : k < l.length) (h1 : sin (l.take k)) (h2 : -1048576 ≤ l.getD k 0 ∧ l.getD k 0 ≤ 1048576) : sin (l.take (k + 1)) := by
  have e : l.take (k + 1) = l.take k ++ [l.getD k 0] := by
    rw [List.take_succ_eq_append_getElem h]
    simp [List.getD_eq_getElem?_getD, h]
  rw [e]
  intro x hx
  rw [List.mem_append, List.mem_singleton] at hx
  rcases hx with hx | hx
  · exact h1 x hx
  · rw [hx]; exact h2
theorem sin_at {l : List Int} {k : Nat} (h : sin l) (hk : k < l.length) : -1048576 ≤ l.getD k 0 ∧ l.getD k 0 ≤ 1048576 := by
  have : l.getD k 0 ∈ l := by
    rw [List.getD_eq_getElem?_getD, List.getElem?_eq_getElem hk]; exact List.getElem_mem _
  exact h _ this
theorem take_bd {l : List Int} {k : Nat} (hl : l.length ≤ 400) (h : sin (l.take k)) : (-419430400 ≤ ssum (l.take k) ∧ ssum (l.take k) ≤ 419430400) ∧ (0 ≤ ssq (l.take k) ∧ ssq (l.take k) ≤ 439804651110400) := by
  have h1 := ssum_bd h
  have h2 := ssq_bd h
  have h3 : (l.take k).length ≤ 400 := by rw [List.length_take]; omega
  omega

set_option maxRecDepth 100000 in
set_option maxHeartbeats 2000000 in
theorem of_any (A : Option Addr) (ca : Nat) (l : List Int) (w : World) (hl : IP w A ca l) :
    Calls Try.prog 10 #[.slice A l.length ca] w fun e w' => e = .returned (ofT l) ∧ Below w.heap.size w w' := by
  have hle := hl.le
  have hcap := hl.cap
  have HB0 : Hid (Below w.heap.size w (w.alloc (.cells #[.int .i64 0, .int .i64 0, .int .i64 0] 24))) := (Below.refl _ _).alloc (Nat.le_refl _) _
  have HF := Lib.hid (mb_new w 0 0 0)
  have HL := Lib.hid hl
  by_cases h4 : 400 < l.length
  · have R : Hid (ofT l = .tuple #[.agg #[.int .i64 0, .int .i64 0, .int .i64 0], .int .i64 2]) := ofT_no (fun h => by have := h.1; omega)
    have t1 : decide ((400 : Int) < (l.length : Int)) = true := decide_eq_true (by omega)
    clear hl h4
    go_enter Try.func10, Try.ntmps10
    go_wp2
    refine ret_mm (p := 2) (u := 3) rfl rfl rfl HF.out rfl ⟨?_, HB0.out⟩
    rw [R.out]; rfl
  · have t1 : decide ((400 : Int) < (l.length : Int)) = false := decide_eq_false (by omega)
    obtain ⟨w1, hw1⟩ : ∃ w1, w1 = w.alloc (.cells #[.int .i64 0, .int .i64 0, .int .i64 0] 24) := ⟨_, rfl⟩
    have hs1 : w1.heap.size = w.heap.size + 1 := by rw [hw1]; simp
    rw [← hw1] at HB0 HF
    clear hl
    have HF2 : Hid (MB (w1.alloc (.cells #[.int .i64 (l.length : Int), .int .i64 0, .int .i64 0] 24)) (w.heap.size + 1) l.length 0 0) := by
      have := mb_new w1 l.length 0 0
      rw [hs1] at this; exact this
    have hb1 : Below w1.heap.size w1 (w1.alloc (.cells #[.int .i64 (l.length : Int), .int .i64 0, .int .i64 0] 24)) := (Below.refl _ _).alloc (Nat.le_refl _) _
    have HF1 : Hid (MB (w1.alloc (.cells #[.int .i64 (l.length : Int), .int .i64 0, .int .i64 0] 24)) w.heap.size 0 0 0) := HF.out.below hb1 (by omega)
    have HB1 : Hid (Below w.heap.size w (w1.alloc (.cells #[.int .i64 (l.length : Int), .int .i64 0, .int .i64 0] 24))) := HB0.out.trans (hb1.mono (by omega))
    clear hb1
    go_enter Try.func10, Try.ntmps10
    go_wp2
    subst hw1
    go_loopw [16] (fun i wr => ∃ k : Nat, k ≤ l.length ∧ i = .int .i64 k ∧ sin (l.take k) ∧ MB wr (w.heap.size + 1) l.length (ssum (l.take k)) (ssq (l.take k)) ∧ MB wr w.heap.size 0 0 0 ∧ Below w.heap.size w wr) (fun i _ => l.length - (intOf i).toNat)
    case atStart => exact ⟨0, by omega, rfl, fun x hx => by simp at hx, HF2.out, HF1.out, HB1.out⟩
    case round =>
      clear HF HB0 HF1 HF2 HB1 hs1
      obtain ⟨k, hk, rfl, hS, hM, hF, hB⟩ := hrel
      have HS := Lib.hid hS
      have HM := Lib.hid hM
      have HF := Lib.hid hF
      have HB := Lib.hid hB
      have hc0 := hM.c0
      have hc1 := hM.c1
      have hc2 := hM.c2
      have hg0 := hF.c0
      have hg1 := hF.c1
      have hg2 := hF.c2
      have hz0 := hF.frozen 0
      have hz1 := hF.frozen 1
      have hz2 := hF.frozen 2
      have HFz := Lib.hid (hF.store 0 0 0)
      have HBz := Lib.hid (((hB.setCell (p := ⟨w.heap.size, 0, none⟩) (Nat.le_refl _) (.int .i64 0)).setCell (p := ⟨w.heap.size, 1, none⟩) (Nat.le_refl _) (.int .i64 0)).setCell (p := ⟨w.heap.size, 2, none⟩) (Nat.le_refl _) (.int .i64 0))
      have hf1 := hM.frozen 1
      have hf2 := hM.frozen 2
      clear hS hM hF hB
      by_cases hlt : k < l.length
      · obtain ⟨b, off, rfl, _, hcell⟩ := (HL.out.later HB.out).il.at (by omega)
        have hci := hcell k hlt
        clear hcell
        by_cases hlo : l.getD k 0 < -1048576
        · have R : Hid (ofT l = .tuple #[.agg #[.int .i64 0, .int .i64 0, .int .i64 0], .int .i64 2]) := ofT_no (fun h => by have := sin_at h.2 hlt; omega)
          generalize l.getD k 0 = x at *
          go_wp2
          refine ret_mm (p := 2) (u := 3) rfl rfl rfl HFz.out rfl ⟨?_, HBz.out⟩
          rw [R.out]; rfl
        · by_cases hhi : 1048576 < l.getD k 0
          · have R : Hid (ofT l = .tuple #[.agg #[.int .i64 0, .int .i64 0, .int .i64 0], .int .i64 2]) := ofT_no (fun h => by have := sin_at h.2 hlt; omega)
            generalize l.getD k 0 = x at *
            go_wp2
            refine ret_mm (p := 2) (u := 3) rfl rfl rfl HFz.out rfl ⟨?_, HBz.out⟩
            rw [R.out]; rfl
          · have HS2 := Lib.hid (sin_succ hlt HS.out ⟨by omega, by omega⟩)
            have HE1 := Lib.hid (ssum_succ hlt)
            have HE2 := Lib.hid (ssq_succ hlt)
            have hbd := take_bd (by omega) HS.out
            have hsq := sq_bd (x := l.getD k 0) ⟨by omega, by omega⟩
            have HM2 := Lib.hid ((HM.out.set1 (ssum (l.take k) + l.getD k 0)).set2 (ssq (l.take k) + l.getD k 0 * l.getD k 0))
            have HF2 := Lib.hid ((HF.out.other (c := ⟨w.heap.size + 1, 1, none⟩) (by simp) (.int .i64 (ssum (l.take k) + l.getD k 0))).other (c := ⟨w.heap.size + 1, 2, none⟩) (by simp) (.int .i64 (ssq (l.take k) + l.getD k 0 * l.getD k 0)))
            have HB2 := Lib.hid ((HB.out.setCell (p := ⟨w.heap.size + 1, 1, none⟩) (by simp) (.int .i64 (ssum (l.take k) + l.getD k 0))).setCell (p := ⟨w.heap.size + 1, 2, none⟩) (by simp) (.int .i64 (ssq (l.take k) + l.getD k 0 * l.getD k 0)))
            have hc2' := (HM.out.set1 (ssum (l.take k) + l.getD k 0)).c2
            have hf2' := (HM.out.set1 (ssum (l.take k) + l.getD k 0)).frozen 2
            generalize ssum (l.take k) = S at *
            generalize ssq (l.take k) = Q at *
            generalize l.getD k 0 = x at *
            have e1 : IntKind.i64.wrap (x * x) = x * x := IntWalk.i64_in _ (by omega)
            have e2 : IntKind.i64.wrap (Q + x * x) = Q + x * x := IntWalk.i64_in _ (by omega)
            go_wp2
            go_roundw
            case rel => exact ⟨k + 1, by omega, by go_num, HS2.out, by rw [HE1.out, HE2.out]; exact HM2.out, HF2.out, HB2.out⟩
            case measure => simp [intOf]; omega
      · obtain rfl : k = l.length := by omega
        have R : Hid (ofT l = .tuple #[.agg #[.int .i64 (l.length : Int), .int .i64 (ssum l), .int .i64 (ssq l)], .int .i64 0]) := ofT_ok ⟨by omega, by have := HS.out; rwa [List.take_length] at this⟩
        rw [List.take_length] at HM hc1 hc2
        have HF2 := Lib.hid (HF.out.store l.length (ssum l) (ssq l))
        have HB2 := Lib.hid (((HB.out.setCell (p := ⟨w.heap.size, 0, none⟩) (Nat.le_refl _) (.int .i64 (l.length : Int))).setCell (p := ⟨w.heap.size, 1, none⟩) (Nat.le_refl _) (.int .i64 (ssum l))).setCell (p := ⟨w.heap.size, 2, none⟩) (Nat.le_refl _) (.int .i64 (ssq l)))
        go_wp2
        refine ret_mm (p := 2) (u := 3) rfl rfl rfl HF2.out rfl ⟨?_, HB2.out⟩
        rw [R.out]; rfl
end Go.Proofs.Ytclfimpcacoefaa
