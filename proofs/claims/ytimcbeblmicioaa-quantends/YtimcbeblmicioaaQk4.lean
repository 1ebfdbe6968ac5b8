/- quant.Right. -/
import Derived.Test.YtimcbeblmicioaaQk2
import Derived.Test.YtimcbeblmicioaaQk3
namespace Go.Proofs.Ytimcbeblmicioaa
open Go.RowKit Go.Deep

theorem enters_small (args : Array Value) (w : World) : (callFunc 29 args).run Try.prog w = .ok (.enter 29 args) w := enters_of Try.func29 (by kernel_rfl) rfl args w
theorem enters_vague (args : Array Value) (w : World) : (callFunc 33 args).run Try.prog w = .ok (.enter 33 args) w := enters_of Try.func33 (by kernel_rfl) rfl args w
theorem any_bad {S : List Rk} : S.any qbadE = false ↔ ∀ r ∈ S, 1 ≤ r.g ∧ r.g ≤ 1099511627776 ∧ 0 ≤ r.m ∧ r.m ≤ 1099511627776 := by
  rw [List.any_eq_false]
  constructor
  · intro h r hr
    have := h r hr
    unfold qbadE at this
    simpa using this
  · intro h r hr
    unfold qbadE
    simp only [decide_not, Bool.not_eq_true', decide_eq_false_iff_not, Decidable.not_not, Bool.not_eq_true]
    have := h r hr
    simpa using this
theorem any_vague {S : List Rk} {b : Int} : S.any (fun r => decide (max 1 b < r.g + r.m)) = false ↔ ∀ r ∈ S, r.g + r.m ≤ 1 ∨ r.g + r.m ≤ b := by
  rw [List.any_eq_false]
  constructor
  · intro h r hr
    have := h r hr
    simp only [decide_eq_true_eq] at this
    omega
  · intro h r hr
    have := h r hr
    simp only [decide_eq_true_eq]
    omega
theorem qtot_bd : ∀ {S : List Rk}, (∀ r ∈ S, 1 ≤ r.g ∧ r.g ≤ 1099511627776 ∧ 0 ≤ r.m ∧ r.m ≤ 1099511627776) → 0 ≤ qtot S ∧ qtot S ≤ S.length * 1099511627776
  | [], _ => by simp [qtot]
  | r :: S, h => by
    have ih := qtot_bd (S := S) (fun y hy => h y (List.mem_cons_of_mem _ hy))
    have h1 := h r (List.mem_cons_self ..)
    simp only [qtot, List.length_cons]
    omega
theorem hmfQ : ∀ (fn : Fn) (first cap : Array Value) (w : World), (Instr.makeFunc fn first cap).run Try.prog w = .ok (.func fn first cap) w := fun _ _ _ _ => rfl

set_option maxRecDepth 100000 in
set_option maxHeartbeats 2500000 in
theorem right_any (p : Int) (A : Option Addr) (ca : Nat) (S : List Rk) (w : World) (b0 : Bool) (hS : RP w A ca S) (hb0 : b0 = true ↔ QR p S) : Calls Try.prog 13 #[.int .i64 p, .slice A S.length ca] w fun e w' => e = .returned (.bool b0) ∧ Below w.heap.size w w' := by
  have hmf := hmfQ
  have hle := hS.le
  have hcap := hS.cap
  have HS := Lib.hid hS
  have HB0 := Lib.hid hb0
  have C0 := Lib.hid (inRangeQ_any p w)
  have hno : ∀ P : Prop, (QR p S → P) → ¬ P → b0 = false := fun P h1 h2 => by
    cases hb : b0 with
    | false => rfl
    | true => exact absurd (h1 (hb0.1 hb)) h2
  have HNO := Lib.hid hno
  clear hS hb0 hno
  by_cases hp : 1 ≤ p ∧ p ≤ 100
  · rw [decide_eq_true hp] at C0
    obtain ⟨hp1, hp2⟩ := hp
    by_cases hl : (400 : Int) < (S.length : Int)
    · have HX := Lib.hid (HNO.out (S.length ≤ 400) (fun h => h.len) (by omega))
      go_enter Try.func13, Try.ntmps13
      go_wp2_with fail
      refine C0.out.mono ?_
      rintro e w1 ⟨rfl, rfl⟩
      go_wp2
      go_ret
      exact ⟨retB HX.out.symm, Below.refl _ _⟩
    · have C1 : Hid (Calls Try.prog 28 #[.slice A S.length ca, .func (.func 29) #[] #[]] w fun e w' => e = .returned (.bool (S.any qbadE)) ∧ Below w.heap.size w w') := containsF_any _ #[] qbadE A ca S w HS.out enters_small (fun a k _ _ => tooSmall_any (rat S k) a)
      cases hbad : S.any qbadE with
      | true =>
        rw [hbad] at C1
        have HX := Lib.hid (HNO.out (S.any qbadE = false) (fun h => any_bad.2 h.each) (by rw [hbad]; simp))
        clear hbad
        go_enter Try.func13, Try.ntmps13
        go_wp2_with fail
        refine C0.out.mono ?_
        rintro e w1 ⟨rfl, rfl⟩
        go_wp2_with fail
        refine C1.out.mono ?_
        rintro e w2 ⟨rfl, hb⟩
        have HB := Lib.hid hb
        clear hb
        go_wp2
        go_ret
        exact ⟨retB HX.out.symm, HB.out⟩
      | false =>
        rw [hbad] at C1
        have hE := any_bad.1 hbad
        have HE := Lib.hid hE
        have htb := qtot_bd hE
        clear hbad hE
        obtain ⟨bs, hbs⟩ : ∃ b : Bool, b = true ↔ qsrt S := by
          by_cases h : qsrt S
          · exact ⟨true, fun _ => h, fun _ => rfl⟩
          · exact ⟨false, (fun h => by cases h), fun h2 => absurd h2 h⟩
        have C2 : Hid (∀ w', Below w.heap.size w w' → Calls Try.prog 30 #[.slice A S.length ca, .func (.func 31) #[] #[]] w' fun e w2 => e = .returned (.bool bs) ∧ Below w'.heap.size w' w2) := fun w' hb => isSortedF_any A ca S w' (HS.out.later hb) bs hbs
        cases bs with
        | false =>
          have HX := Lib.hid (HNO.out (qsrt S) (fun h => h.srt) (fun h => by have := hbs.2 h; cases this))
          clear hbs
          go_enter Try.func13, Try.ntmps13
          go_wp2_with fail
          refine C0.out.mono ?_
          rintro e w1 ⟨rfl, rfl⟩
          go_wp2_with fail
          refine C1.out.mono ?_
          rintro e w2 ⟨rfl, hb⟩
          have HB := Lib.hid hb
          clear hb
          go_wp2_with fail
          refine (C2.out _ HB.out).mono ?_
          rintro e w3 ⟨rfl, hb⟩
          have HB3 := Lib.hid (HB.out.trans (hb.mono HB.out.size))
          clear hb
          go_wp2
          go_ret
          exact ⟨retB HX.out.symm, HB3.out⟩
        | true =>
          have HSR := Lib.hid (hbs.1 rfl)
          clear hbs
          have hlS : S.length ≤ 400 := by omega
          have htt : qtot S ≤ 439804651110400 := by omega
          have C3 : Hid (∀ w', Below w.heap.size w w' → Calls Try.prog 16 #[.slice A S.length ca] w' fun e w2 => e = .returned (.int .i64 (qtot S)) ∧ Below w'.heap.size w' w2) := fun w' hb => count_any A ca S w' (HS.out.later hb) (fun r hr => by have := HE.out r hr; omega) (by omega)
          have C4 := Lib.hid (fun W => boundQ_any p (qtot S) hp1 htb.1 (by omega) W)
          have hd0 : 0 ≤ 2 * qtot S / p := Int.ediv_nonneg (by omega) (by omega)
          have hd1 : 2 * qtot S / p ≤ 9223372036854775807 := Int.le_trans (Int.ediv_le_self _ (by omega)) (by omega)
          have C5 : Hid (∀ (G : Nat) (w' : World), Below w.heap.size w w' → w'.cell? ⟨G, 0, none⟩ = some (.int .i64 (max 1 (2 * qtot S / p))) → G < w'.heap.size → Calls Try.prog 28 #[.slice A S.length ca, .func (.func 33) #[] #[.pointer (some ⟨G, 0, none⟩)]] w' fun e w2 => e = .returned (.bool (S.any (fun r => decide (max 1 (2 * qtot S / p) < r.g + r.m)))) ∧ Below w'.heap.size w' w2) := fun G w' hb hG hl =>
            containsF_any _ #[.pointer (some ⟨G, 0, none⟩)] _ A ca S w' (HS.out.later hb) enters_vague (fun a k hk hba => by
              obtain ⟨h1, h2, h3, h4⟩ := HE.out _ (rat_mem hk)
              exact tooVague_any (rat S k) G _ (by omega) h2 h3 h4 a ((hba.cell (p := ⟨G, 0, none⟩) hl).trans hG) (Nat.lt_of_lt_of_le hl hba.size))
          have HR : Hid (b0 = (decide (qtot S ≤ 1099511627776) && !(S.any (fun r => decide (max 1 (2 * qtot S / p) < r.g + r.m))))) := by
            show _ = _
            rw [Bool.eq_iff_iff, HB0.out, Bool.and_eq_true, decide_eq_true_eq, Bool.not_eq_true', any_vague]
            exact ⟨fun h => ⟨h.tot, h.fit⟩, fun h => ⟨hp1, hp2, hlS, HE.out, HSR.out, h.1, h.2⟩⟩
          clear HB0 HNO HSR
          obtain ⟨bv, hbv⟩ : ∃ bv, S.any (fun r => decide (max 1 (2 * qtot S / p) < r.g + r.m)) = bv := ⟨_, rfl⟩
          rw [hbv] at HR C5
          clear hbv HE
          generalize 2 * qtot S / p = bd at *
          generalize qtot S = tot at *
          go_enter Try.func13, Try.ntmps13
          go_wp2_with fail
          refine C0.out.mono ?_
          rintro e w1 ⟨rfl, rfl⟩
          go_wp2_with fail
          refine C1.out.mono ?_
          rintro e w2 ⟨rfl, hb⟩
          have HB := Lib.hid hb
          clear hb C1
          go_wp2_with fail
          refine (C2.out _ HB.out).mono ?_
          rintro e w3 ⟨rfl, hb⟩
          have HB3 := Lib.hid (HB.out.trans (hb.mono HB.out.size))
          clear hb C2 HB
          go_wp2_with fail
          refine (C3.out _ HB3.out).mono ?_
          rintro e w4 ⟨rfl, hb⟩
          have HB4 := Lib.hid (HB3.out.trans (hb.mono HB3.out.size))
          clear hb C3 HB3
          go_wp2_with fail
          refine (C4.out _).mono ?_
          rintro e w5 ⟨rfl, rfl⟩
          obtain ⟨mm, hmm, hcase⟩ : ∃ mm, max 1 bd = mm ∧ ((bd ≤ 1 ∧ mm = 1) ∨ (¬ bd ≤ 1 ∧ mm = bd)) := ⟨_, rfl, by omega⟩
          rw [hmm] at C5
          have HMM := Lib.hid hmm
          clear hmm
          by_cases htot : tot ≤ 1099511627776
          · rw [decide_eq_true htot] at HR
            have HBX := Lib.hid (HB4.out.alloc HB4.out.size (.cells #[.int .i64 mm] 3))
            have hcx := cell_of_row _ w5.heap.size 0 #[.int .i64 mm] 3 (0, 0) (heap_alloc_new w5 _)
            have CX := Lib.hid (C5.out w5.heap.size _ HBX.out hcx (by simp))
            clear hcx C5 HMM
            rcases hcase with ⟨hc, rfl⟩ | ⟨hc, rfl⟩
            all_goals
              go_wp2_with fail
              refine CX.out.mono ?_
              rintro e w6 ⟨rfl, hb⟩
              have HB6 := Lib.hid (HBX.out.trans (hb.mono HBX.out.size))
              clear hb CX
              go_wp2
              go_ret
              exact ⟨retB (by rw [HR.out]; rfl), HB6.out⟩
          · rw [decide_eq_false htot] at HR
            rcases hcase with ⟨hc, rfl⟩ | ⟨hc, rfl⟩
            all_goals
              clear C5 HMM
              go_wp2
              go_ret
              exact ⟨retB (by rw [HR.out]; rfl), HB4.out.alloc HB4.out.size _⟩
  · rw [decide_eq_false hp] at C0
    have HX := Lib.hid (HNO.out (1 ≤ p ∧ p ≤ 100) (fun h => ⟨h.p1, h.p2⟩) hp)
    go_enter Try.func13, Try.ntmps13
    go_wp2_with fail
    refine C0.out.mono ?_
    rintro e w1 ⟨rfl, rfl⟩
    go_wp2
    go_ret
    exact ⟨retB HX.out.symm, Below.refl _ _⟩
end Go.Proofs.Ytimcbeblmicioaa
