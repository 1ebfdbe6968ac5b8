/- stats.Median. -/
import Derived.Test.YtclfimpcacoefaaMo2
import Derived.Test.YtclfimpcacoefaaPz1
import Derived.Test.YtclfimpcacoefaaCk
import Derived.Test.YtclfimpcacoefaaSqo
import Derived.Deep.QuietTactic
import Derived.BigQuiet
import Derived.WalkSmall
namespace Go.Proofs.Ytclfimpcacoefaa
open Go.RowKit Go.Deep

/-- What Median answers. -/
def medT (l : List Int) : Value := if okl l then (if l.length = 0 then .tuple #[.int .i64 0, .int .i64 3] else .tuple #[.int .i64 (smed (imsort l)), .int .i64 0]) else .tuple #[.int .i64 0, .int .i64 2]
theorem medT_no {l : List Int} (h : ¬ okl l) : medT l = .tuple #[.int .i64 0, .int .i64 2] := if_neg h
theorem medT_none {l : List Int} (h : okl l) (h0 : l.length = 0) : medT l = .tuple #[.int .i64 0, .int .i64 3] := by unfold medT; rw [if_pos h, if_pos h0]
theorem medT_ok {l : List Int} (h : okl l) (h0 : 0 < l.length) : medT l = .tuple #[.int .i64 (smed (imsort l)), .int .i64 0] := by unfold medT; rw [if_pos h, if_neg (by omega)]

set_option maxRecDepth 100000 in
set_option maxHeartbeats 1500000 in
theorem median_any (A : Option Addr) (ca : Nat) (l : List Int) (w : World) (hl : IP w A ca l) :
    Calls Try.prog 16 #[.slice A l.length ca] w fun e w' => e = .returned (medT l) ∧ Below w.heap.size w w' := by
  have hle := hl.le
  have hcap := hl.cap
  have CO := Lib.hid (of_any A ca l w hl)
  have HL := Lib.hid hl
  clear hl
  by_cases h : okl l
  · have h4 := h.1
    rw [ofT_ok h] at CO
    by_cases h0 : l.length = 0
    · have R := Lib.hid (medT_none h h0)
      have t0 : ((l.length : Int) == 0) = true := by rw [h0]; rfl
      clear h h0
      go_enter Try.func16, Try.ntmps16
      go_wp2_with fail
      refine CO.out.mono ?_
      rintro e w1 ⟨rfl, h1⟩
      have HB1 : Hid (Below w.heap.size w (w1.alloc (.cells #[.int .i64 (l.length : Int), .int .i64 (ssum l), .int .i64 (ssq l)] 24))) := h1.alloc h1.size _
      clear h1 CO
      go_wp2
      go_ret2
      exact ⟨by rw [R.out]; rfl, HB1.out⟩
    · have R := Lib.hid (medT_ok h (by omega))
      have HH := Lib.hid h
      have t0 : ((l.length : Int) == 0) = false := eqz_no h0
      clear h
      go_enter Try.func16, Try.ntmps16
      go_wp2_with fail
      refine CO.out.mono ?_
      rintro e w1 ⟨rfl, h1⟩
      have HB1 : Hid (Below w.heap.size w (w1.alloc (.cells #[.int .i64 (l.length : Int), .int .i64 (ssum l), .int .i64 (ssq l)] 24))) := h1.alloc h1.size _
      obtain ⟨w2, hw2⟩ : ∃ w2, w2 = w1.alloc (.cells #[.int .i64 (l.length : Int), .int .i64 (ssum l), .int .i64 (ssq l)] 24) := ⟨_, rfl⟩
      rw [← hw2] at HB1
      have CC := Lib.hid (clone_any A ca l w2 (HL.out.later HB1.out) (by omega))
      subst hw2
      clear h1 CO
      go_wp2_with fail
      refine CC.out.mono ?_
      rintro e w3 ⟨v, rfl, hO, hb3⟩
      obtain ⟨g, cr, rfl, hg1, hg2, hg3, hg4, hg5, hg6, hO2⟩ := hO.form rfl (by omega)
      have CSo := Lib.hid (sortO_any _ l.length _ cr l (by omega) w3 rfl hO2 hb3.size)
      have HB3 := Lib.hid (HB1.out.trans (hb3.mono HB1.out.size))
      have HSZ := Lib.hid HB1.out.size
      clear hO hb3 hg5 hg6 hO2 CC HB1
      go_wp2_with fail
      refine CSo.out.mono ?_
      rintro e w4 ⟨rfl, hO4, hb4⟩
      have HB4 := Lib.hid (HB3.out.trans (hb4.mono HSZ.out))
      have hil := imsort_len l
      obtain ⟨M, hM⟩ : ∃ M, imsort l = M := ⟨_, rfl⟩
      obtain ⟨Bx, hO5⟩ : ∃ Bx, OI w4 Bx (.slice (some ⟨g, 0, none⟩) l.length cr) M := ⟨_, by rw [← hM]; exact hO4⟩
      rw [hM] at hil R
      have HMB : Hid (∀ i, i < l.length → -1048576 ≤ M.getD i 0 ∧ M.getD i 0 ≤ 1048576) := fun i hi => by
        have hm : M.getD i 0 ∈ M := by
          rw [List.getD_eq_getElem?_getD, List.getElem?_eq_getElem (by omega)]; exact List.getElem_mem _
        rw [← hM] at hm ⊢
        exact HH.out.2 _ ((imsort_perm l).mem_iff.1 hm)
      obtain ⟨n, hn⟩ : ∃ n, n = l.length := ⟨_, rfl⟩
      obtain ⟨m, hm⟩ : ∃ m, m = n - 1 := ⟨_, rfl⟩
      have q1 : IntKind.i64.wrap ((n : Int) - 1) = (m : Int) := by rw [IntWalk.i64_in _ (by omega)]; omega
      have q2 : IntKind.i64.wrap ((m : Int).tdiv 2) = ((n - 1) / 2 : Nat) := by
        rw [hm, show ((n - 1 : Nat) : Int).tdiv 2 = (((n - 1) / 2 : Nat) : Int) from rfl, IntWalk.i64_in _ (by omega)]
      have q3 : IntKind.i64.wrap ((n : Int).tdiv 2) = (n / 2 : Nat) := by
        rw [show (n : Int).tdiv 2 = ((n / 2 : Nat) : Int) from rfl, IntWalk.i64_in _ (by omega)]
      have q4 : IntKind.i64.wrap ((m : Int) / 2) = ((n - 1) / 2 : Nat) := by
        rw [hm, IntWalk.i64_in _ (by omega)]; rfl
      have q5 : IntKind.i64.wrap ((n : Int) / 2) = (n / 2 : Nat) := by
        rw [IntWalk.i64_in _ (by omega)]; rfl
      have i1 : (n - 1) / 2 < n := by omega
      have i2 : n / 2 < n := by omega
      have c1 := hO5.at (i := (n - 1) / 2) (by omega)
      have c2 := hO5.at (i := n / 2) (by omega)
      have hb1 := HMB.out ((n - 1) / 2) (by omega)
      have hb2 := HMB.out (n / 2) (by omega)
      have RS : Hid (smed M = M.getD ((n - 1) / 2) 0 + M.getD (n / 2) 0) := by show smed M = _; unfold smed; rw [hil, hn]
      rw [← hn] at *
      clear hm
      clear hO4 hO5 hb4 HMB HB3 CSo hM hil
      generalize M.getD ((n - 1) / 2) 0 = x at *
      generalize M.getD (n / 2) 0 = y at *
      generalize (n - 1) / 2 = j at *
      generalize n / 2 = k at *
      go_wp2
      go_quiet (fail)
      go_wp2
      go_ret2
      exact ⟨by rw [R.out, RS.out]; rfl, below_drewN HB4.out _⟩
  · rw [ofT_no h] at CO
    have R := Lib.hid (medT_no h)
    clear h
    go_enter Try.func16, Try.ntmps16
    go_wp2_with fail
    refine CO.out.mono ?_
    rintro e w1 ⟨rfl, h1⟩
    have HB1 : Hid (Below w.heap.size w (w1.alloc (.cells #[.int .i64 0, .int .i64 0, .int .i64 0] 24))) := h1.alloc h1.size _
    clear h1 CO
    go_wp2
    go_ret2
    exact ⟨by rw [R.out]; rfl, HB1.out⟩
end Go.Proofs.Ytclfimpcacoefaa
