/- lotdrawerkeep.FenOnce: the walk. -/
import Derived.Test.YtomdjaidechjpaaV9
import Derived.Test.YtomdjaidechjpaaMb
namespace Go.Proofs.Ytomdjaidechjpaa
open Go.RowKit Go.Deep Go.Maps

theorem nat_wfV {y : Nat} (h : y < 1000000) : (Lit.int .i64 (y : Int)).wf = true := by
  simp [Lit.wf, IntKind.min, IntKind.max, IntKind.signed, IntKind.bits]; omega
/-- What is drawn: an error and nothing, or different indices of weight, so many as there are numbers. -/
theorem drawC_cases (W N : List Int) : (∃ e : Int, drawC W N = ([], e) ∧ e ≠ 0) ∨ ∃ d : List Int, drawC W N = (d, 0) ∧ d.length = N.length ∧ d.Nodup ∧ W.length ≤ 400 ∧ ∀ j, j < d.length → ∃ k : Nat, d.getD j 0 = k ∧ k < W.length ∧ W.getD k 0 ≠ 0 := by
  rcases Classical.em (WF W) with h | h
  · rw [drawC_ok h]
    rcases drF_err N W [] with ⟨d, hd⟩ | hd
    · obtain ⟨e, h1, h2, h3, h4⟩ := drF_once N W [] d h hd
      rw [List.nil_append] at h1
      subst h1
      exact .inr ⟨d, hd, h2, h3, h.1, fun j hj => h4 _ (memV hj)⟩
    · exact .inl ⟨3, hd, by decide⟩
  · exact .inl ⟨2, drawC_no h N, by decide⟩
theorem take_mem {d : List Int} {j : Nat} (hj : j < d.length) (x : Int) : x ∈ d.take (j + 1) ↔ x = d.getD j 0 ∨ x ∈ d.take j := by
  rw [take_snocV hj, List.mem_append, List.mem_singleton]
  exact Or.comm
theorem notin_take {d : List Int} (hd : d.Nodup) {j : Nat} (hj : j < d.length) : d.getD j 0 ∉ d.take j := by
  have h := hd
  rw [← List.take_append_drop (j + 1) d, take_snocV hj] at h
  have h2 := (List.nodup_append.1 (List.nodup_append.1 h).1).2.2
  intro hm
  exact h2 _ hm _ List.mem_cons_self rfl

set_option maxRecDepth 100000 in
set_option maxHeartbeats 4000000 in
theorem fenOnce_walk (A : Option Addr) (ca : Nat) (W : List Int) (A2 : Option Addr) (c2 : Nat) (N : List Int) (w : World) (hW : IP w A ca W) (hN : IP w A2 c2 N) (hn : N.length < 17592186044416) (hb : ∀ j, j < N.length → N.getD j 0 ≤ 9223372036854775807) :
    Calls Try.prog 5 #[.slice A W.length ca, .slice A2 N.length c2] w fun e w' => e = .returned (.bool true) ∧ Below w.heap.size w w' := by
  have CA := Lib.hid (alive9_any w)
  have hle := hW.le
  have hcap := hW.cap
  have hle2 := hN.le
  have hcap2 := hN.cap
  have C1 : Hid (∀ w' : World, Below w.heap.size w w' → Calls Try.prog 11 #[.slice A W.length ca, .slice A2 N.length c2] w' (LPost w' (drawC W N))) := fun w' h => drawC_any A A2 ca c2 W N w' (hW.later h) (hN.later h) hn hb
  have HW := Lib.hid hW
  have hc := drawC_cases W N
  clear hW hN hb
  go_enter Try.func5, Try.ntmps5
  go_wp2_with fail
  refine CA.out.mono ?_
  rintro e w1 ⟨rfl, hb1⟩
  have HB1 := Lib.hid hb1
  have C1 := Lib.hid (C1.out w1 hb1)
  clear CA hb1
  rcases hc with ⟨er, hd, her⟩ | ⟨d, hd, hdl, hnd, h4, hde⟩
  · rw [hd] at C1
    have t1 : (er != 0) = true := ineq_yes her
    clear hd her
    go_wp2_with fail
    refine C1.out.mono ?_
    rintro e w2 ⟨R, cr, rfl, hD, hb2⟩
    unfold ltup
    have HB2 := Lib.hid (HB1.out.trans (hb2.mono HB1.out.size))
    clear hD hb2 C1
    go_wp2
    go_ret
    exact ⟨rfl, HB2.out⟩
  · rw [hd] at C1
    have HND := Lib.hid hnd
    have HDE := Lib.hid hde
    have HDL := Lib.hid hdl
    have hdb : d.length < 17592186044416 := by omega
    clear hd hnd hde hdl
    go_wp2_with fail
    refine C1.out.mono ?_
    rintro e w2 ⟨R, cr, rfl, hD, hb2⟩
    unfold ltup
    have HB2 := Lib.hid (HB1.out.trans (hb2.mono HB1.out.size))
    have HD : Hid (IP w2 R cr d) := hD
    have hdc : d.length ≤ cr := hD.le
    have hdm : cr ≤ 9223372036854775807 := hD.cap
    have HM : Hid (SetM (w2.alloc (.map #[] 0)) w2.heap.size 0 (fun _ => false)) := SetM.made w2
    have HBM : Hid (Below w2.heap.size w2 (w2.alloc (.map #[] 0))) := (Below.refl _ _).alloc (Nat.le_refl _) _
    clear hD hb2 C1
    have hmm := @run_makeMap Try.prog
    go_wp2_with fail
    clear hmm
    go_loopw [26] (fun iv wr => ∃ (j : Nat) (S : Int → Bool), j ≤ d.length ∧ iv = .int .i64 j ∧ SetM wr w2.heap.size j S ∧ (∀ x : Int, S x = true ↔ x ∈ d.take j) ∧ Below w2.heap.size w2 wr) (fun iv _ => d.length - (intOf iv).toNat)
    case atStart => exact ⟨0, _, by omega, rfl, HM.out, by simp, HBM.out⟩
    case round =>
      clear HM HBM
      obtain ⟨j, S, hj, rfl, hM, hS, hB⟩ := hrel
      have HM := Lib.hid hM
      have HS := Lib.hid hS
      have HB := Lib.hid hB
      clear hM hS hB
      by_cases hlt : j < d.length
      · obtain ⟨b, off, rfl, hbl, hcell⟩ := (HD.out.later HB.out).il.at (by omega)
        have hci := hcell j hlt
        obtain ⟨k, hk, hkl, hkn⟩ := HDE.out j hlt
        rw [hk] at hci
        obtain ⟨b2, off2, rfl, _, hcell2⟩ := ((HW.out.later HB2.out).later HB.out).il.at (by omega)
        have hck := hcell2 k hkl
        have hSk : S (k : Int) = false := by
          cases e : S (k : Int) with
          | false => rfl
          | true => exact absurd ((HS.out k).1 e) (by rw [← hk]; exact notin_take HND.out hlt)
        have hlook := HM.out.look (nat_wfV (y := k) (by omega))
        rw [hSk] at hlook
        have t0 : decide ((k : Int) < 0) = false := by rw [decide_eq_false_iff_not]; omega
        have t1 : decide ((W.length : Int) ≤ (k : Int)) = false := by rw [decide_eq_false_iff_not]; omega
        have t2 : decide (W.length ≤ k) = false := by rw [decide_eq_false_iff_not]; omega
        have t3 : (W.getD k 0 == 0) = false := by rw [beq_eq_false_iff_ne]; exact hkn
        have HK := Lib.hid hk
        clear hcell hcell2 hk hSk hkn
        generalize W.getD k 0 = x at *
        go_wp2_with (refine wpList_setM rfl _ _ _ rfl w2.heap.size j S (k : Int) rfl rfl rfl (nat_wfV (by omega)) HM.out (by omega) ?_)
        intro w3 hM3 hg3
        have HM3 := Lib.hid hM3
        have HB3 : Hid (Below w2.heap.size w2 w3) := HB.out.grown hg3 (by exact HB.out.size) (fun q hq => by injection hq with hq; omega)
        clear hM3 hg3 hlook
        go_wp2
        go_roundw
        case rel => exact ⟨j + 1, _, by omega, by go_num, HM3.out, fun z => by rw [take_mem hlt, HK.out, ← HS.out z, Bool.or_eq_true, beq_iff_eq], HB3.out⟩
        case measure => simp [intOf]; omega
      · obtain rfl : j = d.length := by omega
        have HBE := Lib.hid (HB2.out.trans (HB.out.mono HB2.out.size))
        have hdl := HDL.out
        go_wp2
        go_ret
        exact ⟨by simp [hdl], HBE.out⟩
end Go.Proofs.Ytomdjaidechjpaa
