/- slices.IndexFunc, ContainsFunc over any test of entries; IsSortedFunc by numbers. -/
import Derived.Test.YtimcbeblmicioaaQk1
import Derived.Shelf.Abstract
import Derived.StillTailTactics
namespace Go.Proofs.Ytimcbeblmicioaa
open Go.RowKit Go.Deep

/-- The first entry that passes the test, or -1. -/
def QxP (q : Rk → Bool) (S : List Rk) (r : Int) : Prop := (r = -1 ∧ ∀ j, j < S.length → q (rat S j) = false) ∨ ∃ k : Nat, r = k ∧ k < S.length ∧ q (rat S k) = true ∧ ∀ j, j < k → q (rat S j) = false
set_option maxRecDepth 100000 in
set_option maxHeartbeats 2000000 in
theorem indexF_any (fid : Nat) (caps : Array Value) (q : Rk → Bool) (A : Option Addr) (ca : Nat) (S : List Rk) (w : World) (hS : RP w A ca S)
    (hen : ∀ (args : Array Value) (w : World), (callFunc fid args).run Try.prog w = .ok (.enter fid args) w)
    (hf : ∀ (a : World) (k : Nat), k < S.length → Below w.heap.size w a → Calls Try.prog fid (#[rkv (rat S k)] ++ caps) a fun e b => e = .returned (.bool (q (rat S k))) ∧ Below a.heap.size a b) :
    Calls Try.prog 39 #[.slice A S.length ca, .func (.func fid) #[] caps] w fun e w' => ∃ r, e = .returned (.int .i64 r) ∧ QxP q S r ∧ Below w.heap.size w w' := by
  have HF := Lib.hid hf
  have HS := Lib.hid hS
  have hle := hS.le
  have hcap := hS.cap
  clear hf hS
  go_enter Try.func39, Try.ntmps39
  go_wp2_with fail
  go_loopw [8] (fun iv wr => ∃ k : Nat, k ≤ S.length ∧ iv = .int .i64 k ∧ Below w.heap.size w wr ∧ (∀ j, j < k → q (rat S j) = false)) (fun iv _ => S.length - (intOf iv).toNat)
  case atStart => exact ⟨0, by omega, rfl, Below.refl _ _, fun j hj => by omega⟩
  case round =>
    obtain ⟨k, hk, rfl, hB, hj⟩ := hrel
    have HB := Lib.hid hB
    have HJ := Lib.hid hj
    clear hB hj
    by_cases hlt : k < S.length
    · obtain ⟨b, off, rfl, _, hcell⟩ := (HS.out.later HB.out).il (by omega)
      obtain ⟨c0, c1, c2⟩ := hcell k hlt
      have hki : (k : Int) < (S.length : Int) := by omega
      have C := Lib.hid (HF.out wr k hlt HB.out)
      have HR : Hid (QxP q S k ∨ q (rat S k) = false) := by
        show _ ∨ _
        cases hq : q (rat S k) with
        | true => exact .inl (.inr ⟨k, rfl, hlt, hq, HJ.out⟩)
        | false => exact .inr rfl
      have HN : Hid (q (rat S k) = false → ∀ j, j < k + 1 → q (rat S j) = false) := fun h j hj => by
        by_cases e : j = k
        · subst e; exact h
        · exact HJ.out j (by omega)
      clear hcell HJ
      unfold rkv at C
      obtain ⟨bb, hbb⟩ : ∃ bb, q (rat S k) = bb := ⟨_, rfl⟩
      have HT : Hid (bb = true → QxP q S k) := fun h => by
        rcases HR.out with h2 | h2
        · exact h2
        · rw [hbb, h] at h2; cases h2
      rw [hbb] at C HN
      clear HR hbb
      generalize (rat S k).n = x at *
      generalize (rat S k).g = y at *
      generalize (rat S k).m = z at *
      cases bb with
      | true =>
        have HX := Lib.hid (HT.out rfl)
        clear HT HN
        go_wp2_with (go_at_fn fid; refine C.out.mono ?_; rintro e w2 ⟨rfl, hb⟩)
        go_ret
        exact ⟨k, rfl, HX.out, HB.out.trans (hb.mono HB.out.size)⟩
      | false =>
        have HX := Lib.hid (HN.out rfl)
        clear HT HN
        go_wp2_with (go_at_fn fid; refine C.out.mono ?_; rintro e w2 ⟨rfl, hb⟩)
        go_roundw
        case rel => exact ⟨k + 1, by omega, by go_num, HB.out.trans (hb.mono HB.out.size), HX.out⟩
        case measure => simp [intOf]; omega
    · obtain rfl : k = S.length := by omega
      have HX : Hid (QxP q S (-1)) := .inl ⟨rfl, HJ.out⟩
      clear HJ
      go_wp2
      go_ret
      exact ⟨-1, rfl, HX.out, HB.out⟩

theorem QxP.any {q : Rk → Bool} {S : List Rk} {r : Int} (h : QxP q S r) : decide (0 ≤ r) = S.any q := by
  rcases h with ⟨rfl, h⟩ | ⟨k, rfl, hk, h1, _⟩
  · symm
    rw [show decide ((0 : Int) ≤ -1) = false from rfl, List.any_eq_false]
    intro x hx
    obtain ⟨j, hj, e⟩ := rat_of_mem hx
    rw [← e, h j hj]; simp
  · rw [decide_eq_true (by omega)]
    symm
    rw [List.any_eq_true]
    exact ⟨_, rat_mem hk, h1⟩
theorem enters_idx (args : Array Value) (w : World) : (callFunc 39 args).run Try.prog w = .ok (.enter 39 args) w := enters_of Try.func39 (by kernel_rfl) rfl args w
set_option maxRecDepth 100000 in
set_option maxHeartbeats 2000000 in
theorem containsF_any (fid : Nat) (caps : Array Value) (q : Rk → Bool) (A : Option Addr) (ca : Nat) (S : List Rk) (w : World) (hS : RP w A ca S)
    (hen : ∀ (args : Array Value) (w : World), (callFunc fid args).run Try.prog w = .ok (.enter fid args) w)
    (hf : ∀ (a : World) (k : Nat), k < S.length → Below w.heap.size w a → Calls Try.prog fid (#[rkv (rat S k)] ++ caps) a fun e b => e = .returned (.bool (q (rat S k))) ∧ Below a.heap.size a b) :
    Calls Try.prog 28 #[.slice A S.length ca, .func (.func fid) #[] caps] w fun e w' => e = .returned (.bool (S.any q)) ∧ Below w.heap.size w w' := by
  have C := Lib.hid (indexF_any fid caps q A ca S w hS hen hf)
  have hle := hS.le
  have hcap := hS.cap
  clear hS hf
  go_enter Try.func28, Try.ntmps28
  go_wp2_with fail
  refine C.out.mono ?_
  rintro e w1 ⟨r, rfl, hr, hb⟩
  have HR := Lib.hid hr.any
  have HB := Lib.hid hb
  clear hr hb
  go_wp2
  go_ret
  exact ⟨retB HR.out, HB.out⟩

/-- Sorted from place k on. -/
def qsrF (S : List Rk) (k : Nat) : Prop := ∀ i, k ≤ i → i < S.length → i = 0 ∨ (rat S (i - 1)).n ≤ (rat S i).n
theorem enters_byN (args : Array Value) (w : World) : (callFunc 31 args).run Try.prog w = .ok (.enter 31 args) w := enters_of Try.func31 (by kernel_rfl) rfl args w
theorem qsrt_of_F {S : List Rk} (h : qsrF S 1) : qsrt S := qsrt_adj fun i hi => by
  by_cases e : i = 0
  · exact .inl e
  · exact h i (by omega) hi
set_option maxRecDepth 100000 in
set_option maxHeartbeats 2000000 in
theorem isSortedF_any (A : Option Addr) (ca : Nat) (S : List Rk) (w : World) (hS : RP w A ca S) (b0 : Bool) (hb0 : b0 = true ↔ qsrt S) :
    Calls Try.prog 30 #[.slice A S.length ca, .func (.func 31) #[] #[]] w fun e w' => e = .returned (.bool b0) ∧ Below w.heap.size w w' := by
  have hen := enters_byN
  have HS := Lib.hid hS
  have HC := Lib.hid byNumber_any
  have HB0 := Lib.hid hb0
  have hle := hS.le
  have hcap := hS.cap
  clear hS hb0
  go_enter Try.func30, Try.ntmps30
  go_wp2_with fail
  go_loopw [5] (fun iv wr => ∃ (kk : Int) (k : Nat), k ≤ S.length ∧ iv = .int .i64 kk ∧ kk = (k : Int) - 1 ∧ Below w.heap.size w wr ∧ qsrF S k) (fun iv _ => (intOf iv + 1).toNat)
  case atStart => exact ⟨_, S.length, by omega, rfl, rfl, Below.refl _ _, fun i h1 h2 => by omega⟩
  case round =>
    obtain ⟨kk, k, hk, rfl, hkk, hB, hj⟩ := hrel
    have HB := Lib.hid hB
    have HJ := Lib.hid hj
    clear hB hj
    by_cases hlt : 0 < kk
    · obtain ⟨i, rfl⟩ : ∃ i : Nat, kk = ((i + 1 : Nat) : Int) := ⟨(kk - 1).toNat, by omega⟩
      obtain rfl : k = i + 2 := by omega
      obtain ⟨b, off, rfl, _, hcell⟩ := (HS.out.later HB.out).il (by omega)
      obtain ⟨c0, c1, c2⟩ := hcell i (by omega)
      obtain ⟨d0, d1, d2⟩ := hcell (i + 1) (by omega)
      have C := Lib.hid (fun W => HC.out (rat S (i + 1)) (rat S i) W)
      have HN : Hid ((rat S i).n ≤ (rat S (i + 1)).n → qsrF S (i + 1)) := fun h j h1 h2 => by
        by_cases e : j = i + 1
        · subst e; exact .inr h
        · exact HJ.out j (by omega) h2
      have HF : Hid ((rat S (i + 1)).n < (rat S i).n → b0 = false) := fun h => by
        cases hb : b0 with
        | false => rfl
        | true =>
          have := qsrt_le (HB0.out.1 hb) (i := i) (j := i + 1) (by omega) (by omega)
          omega
      have hi1 : ((i + 1 : Nat) : Int) < (S.length : Int) := by omega
      have hi2 : (i : Int) < (S.length : Int) := by omega
      obtain ⟨j, hj⟩ : ∃ j, i + 1 = j := ⟨_, rfl⟩
      have hji : (j : Int) - 1 = (i : Int) := by omega
      rw [hj] at hlt d0 d1 d2 C HN HF hi1 ⊢
      have hwi : IntKind.i64.wrap (i : Int) = (i : Int) := by rw [IntKind.wrap_i64]; omega
      have HJE := Lib.hid hj
      clear hcell HJ hj hkk
      unfold rkv at C
      generalize (rat S i).n = x at *
      generalize (rat S i).g = y at *
      generalize (rat S i).m = z at *
      generalize (rat S j).n = x2 at *
      generalize (rat S j).g = y2 at *
      generalize (rat S j).m = z2 at *
      by_cases hx : x2 < x
      · have hsg : qsg x2 x = -1 := if_pos hx
        rw [hsg] at C
        have HX := Lib.hid (HF.out hx)
        clear HF HN
        go_wp2_with fail
        go_still_tail 10, (by kernel_rfl)
        first
          | change wpList _ _ _ _ _ wr.drew
          | still_step
        go_wp2_with (go_at_fn 31; refine (C.out _).mono ?_; rintro e w2 ⟨rfl, hb⟩)
        go_ret
        exact ⟨retB HX.out.symm, HB.out.drew.trans (hb.mono HB.out.drew.size)⟩
      · have hsg : qsg x2 x < 0 → False := fun h => by
          unfold qsg at h
          rw [if_neg hx] at h
          split at h <;> omega
        have hsg2 : ¬ qsg x2 x < 0 := hsg
        have HX := Lib.hid (HN.out (by omega))
        clear HF HN hsg
        generalize qsg x2 x = sg at *
        go_wp2_with fail
        go_still_tail 10, (by kernel_rfl)
        first
          | change wpList _ _ _ _ _ wr.drew
          | still_step
        go_wp2_with (go_at_fn 31; refine (C.out _).mono ?_; rintro e w2 ⟨rfl, hb⟩)
        go_roundw
        case rel => exact ⟨(j : Int) - 1, j, by have := HJE.out; omega, by go_num, rfl, HB.out.drew.trans (hb.mono HB.out.drew.size), HX.out⟩
        case measure => have := HJE.out; simp [intOf]; omega
    · have HX : Hid (b0 = true) := HB0.out.2 (qsrt_of_F fun i h1 h2 => HJ.out i (by omega) h2)
      clear HJ
      go_wp2
      go_ret
      exact ⟨retB HX.out.symm, HB.out⟩
end Go.Proofs.Ytimcbeblmicioaa
