/- lotdrawerref.QWrong; WalkCounts' closures. -/
import Derived.Test.YtojoecoocbjgaaaWk8
import Derived.Test.YtojoecoocbjgaaaIv
import Derived.Test.YtojoecoocbjgaaaWkc
import Derived.Deep.RegionHeld3
namespace Go.Proofs.Ytojoecoocbjgaaa
open Go.RowKit Go.Deep Go.Maps

/-- Is a number too great: so far. -/
def qbad (n : Int) (l : List Int) (k : Nat) : Bool := !decide (stp n ∧ ∀ j, j < k → hgt (l.getD j 0))
theorem qbad_succ (n : Int) (l : List Int) (k : Nat) : qbad n l (k + 1) = (qbad n l k || decide (l.getD k 0 < -100) || decide (100 < l.getD k 0)) := by
  unfold qbad
  by_cases h1 : stp n ∧ ∀ j, j < k → hgt (l.getD j 0)
  · by_cases h2 : l.getD k 0 < -100
    · rw [decide_eq_true h2, decide_eq_false (fun h => by have := (h.2 k (by omega)).1; omega)]; simp
    · by_cases h3 : 100 < l.getD k 0
      · rw [decide_eq_true h3, decide_eq_false (fun h => by have := (h.2 k (by omega)).2; omega)]; simp
      · rw [decide_eq_false h2, decide_eq_false h3, decide_eq_true h1, decide_eq_true ⟨h1.1, fun j hj => by
          by_cases e : j = k
          · subst e; exact ⟨by omega, by omega⟩
          · exact h1.2 j (by omega)⟩]; rfl
  · rw [decide_eq_false h1, decide_eq_false (fun h => h1 ⟨h.1, fun j hj => h.2 j (by omega)⟩)]; rfl
theorem qbad_zero (n : Int) (l : List Int) : qbad n l 0 = !decide (stp n) := by
  unfold qbad
  by_cases h : stp n
  · rw [decide_eq_true h, decide_eq_true ⟨h, fun j hj => absurd hj (by omega)⟩]
  · rw [decide_eq_false h, decide_eq_false (fun x => h x.1)]
theorem qbad_all (n : Int) (l : List Int) : qbad n l l.length = !inR n l := rfl

set_option maxRecDepth 100000 in
set_option maxHeartbeats 1000000 in
theorem qwrong_any (n : Int) (A : Option Addr) (ca : Nat) (l : List Int) (w : World) (hl : IP w A ca l) :
    Calls Try.prog 16 #[.int .i64 n, .slice A l.length ca] w fun e w' => e = .returned (.bool (!inR n l)) ∧ Below w.heap.size w w' := by
  have hle := hl.le
  have hcap := hl.cap
  have HL := Lib.hid hl
  clear hl
  have tz : Hid (qbad n l 0 = !decide (stp n)) := qbad_zero n l
  obtain ⟨b0, hb0⟩ : ∃ b0, qbad n l 0 = b0 := ⟨_, rfl⟩
  have HST : ∀ (P : Prop), ((n < 0 ∧ b0 = true) ∨ (¬ n < 0 ∧ 56 < n ∧ b0 = true) ∨ (¬ n < 0 ∧ ¬ 56 < n ∧ b0 = false) → P) → P := fun P h => by
    have e := tz.out
    rw [hb0] at e
    refine h ?_
    by_cases h1 : n < 0
    · exact .inl ⟨h1, by rw [e, decide_eq_false (show ¬ stp n from fun h => by have := h.1; omega)]; rfl⟩
    · by_cases h2 : 56 < n
      · exact .inr (.inl ⟨h1, h2, by rw [e, decide_eq_false (show ¬ stp n from fun h => by have := h.2; omega)]; rfl⟩)
      · exact .inr (.inr ⟨h1, h2, by rw [e, decide_eq_true (show stp n from ⟨by omega, by omega⟩)]; rfl⟩)
  have H0 := Lib.hid hb0
  clear hb0 tz
  refine HST _ ?_
  clear HST
  rintro (⟨h1, rfl⟩ | ⟨h1, h2, rfl⟩ | ⟨h1, h2, rfl⟩)
  all_goals
    go_enter Try.func16, Try.ntmps16
    go_wp2
    go_loopw [5, 16] (fun i b wr => ∃ k : Nat, k ≤ l.length ∧ i = .bool (qbad n l k) ∧ b = .int .i64 k ∧ Below w.heap.size w wr) (fun _ i _ => l.length - (intOf i).toNat)
    case atStart => exact ⟨0, by omega, by rw [H0.out], rfl, Below.refl _ _⟩
    case round =>
      obtain ⟨k, hk, rfl, rfl, hB⟩ := hrel
      have HB := Lib.hid hB
      clear hB
      by_cases hlt : k < l.length
      · obtain ⟨b, off, rfl, _, hcell⟩ := (HL.out.later HB.out).il.at (by omega)
        have hci := hcell k hlt
        have HS := Lib.hid (qbad_succ n l k)
        clear hcell
        generalize qbad n l k = c at *
        generalize l.getD k 0 = x at *
        cases c with
        | true =>
          rw [Bool.true_or, Bool.true_or] at HS
          go_wp2
          go_roundw
          case rel => exact ⟨k + 1, by omega, by rw [HS.out], by go_num, HB.out⟩
          case measure => simp [intOf]; omega
        | false =>
          by_cases h3 : x < -100
          · rw [decide_eq_true h3, Bool.false_or, Bool.true_or] at HS
            go_wp2
            go_roundw
            case rel => exact ⟨k + 1, by omega, by rw [HS.out], by go_num, HB.out⟩
            case measure => simp [intOf]; omega
          · by_cases h4 : 100 < x
            · rw [decide_eq_true h4, Bool.or_true] at HS
              go_wp2
              go_roundw
              case rel => exact ⟨k + 1, by omega, by rw [HS.out], by go_num, HB.out⟩
              case measure => simp [intOf]; omega
            · rw [decide_eq_false h3, decide_eq_false h4, Bool.or_false, Bool.or_false] at HS
              go_wp2
              go_roundw
              case rel => exact ⟨k + 1, by omega, by rw [HS.out], by go_num, HB.out⟩
              case measure => simp [intOf]; omega
      · obtain rfl : k = l.length := by omega
        have R := Lib.hid (qbad_all n l)
        go_wp2
        go_ret
        exact ⟨by rw [R.out]; rfl, HB.out⟩

theorem enters_q2 (args : Array Value) (w : World) : (callFunc 15 args).run Try.prog w = .ok (.enter 15 args) w := enters_of Try.func15 (by kernel_rfl) rfl args w
theorem enters_q41 (args : Array Value) (w : World) : (callFunc 20 args).run Try.prog w = .ok (.enter 20 args) w := enters_of Try.func20 (by kernel_rfl) rfl args w
theorem enters_q51 (args : Array Value) (w : World) : (callFunc 22 args).run Try.prog w = .ok (.enter 22 args) w := enters_of Try.func22 (by kernel_rfl) rfl args w
theorem enters_q61 (args : Array Value) (w : World) : (callFunc 24 args).run Try.prog w = .ok (.enter 24 args) w := enters_of Try.func24 (by kernel_rfl) rfl args w
theorem enters_q71 (args : Array Value) (w : World) : (callFunc 26 args).run Try.prog w = .ok (.enter 26 args) w := enters_of Try.func26 (by kernel_rfl) rfl args w

set_option maxHeartbeats 400000 in
theorem q2_any (s h : Int) (w : World) : Calls Try.prog 15 #[.int .i64 s, .int .i64 h] w fun e w' => e = .returned (.bool true) ∧ w' = w := by
  go_enter Try.func15, Try.ntmps15
  go_wp2
  go_ret
  exact ⟨rfl, rfl⟩
set_option maxHeartbeats 400000 in
theorem q41_any (s h : Int) (w : World) : Calls Try.prog 20 #[.int .i64 s, .int .i64 h] w fun e w' => e = .returned (.bool (decide (0 < h))) ∧ w' = w := by
  go_enter Try.func20, Try.ntmps20
  go_wp2
  go_ret
  exact ⟨rfl, rfl⟩
set_option maxHeartbeats 400000 in
theorem q71_any (s h : Int) (w : World) : Calls Try.prog 26 #[.int .i64 s, .int .i64 h] w fun e w' => e = .returned (.bool (decide (0 ≤ h))) ∧ w' = w := by
  go_enter Try.func26, Try.ntmps26
  go_wp2
  go_ret
  exact ⟨rfl, rfl⟩
set_option maxHeartbeats 400000 in
theorem q51_any (g : Nat) (t s h : Int) (w : World) (hg : w.cell? ⟨g, 0, none⟩ = some (.int .i64 t)) : Calls Try.prog 22 #[.int .i64 s, .int .i64 h, .pointer (some ⟨g, 0, none⟩)] w fun e w' => e = .returned (.bool (decide (0 < h) && decide (h < t))) ∧ w' = w := by
  by_cases h1 : 0 < h
  · rw [decide_eq_true h1, Bool.true_and]
    go_enter Try.func22, Try.ntmps22
    go_wp2
    go_ret
    exact ⟨rfl, rfl⟩
  · rw [decide_eq_false h1, Bool.false_and]
    go_enter Try.func22, Try.ntmps22
    go_wp2
    go_ret
    exact ⟨rfl, rfl⟩
set_option maxHeartbeats 400000 in
theorem q61_any (g n s : Nat) (h : Int) (w : World) (hg : w.cell? ⟨g, 0, none⟩ = some (.int .i64 (n : Int))) : Calls Try.prog 24 #[.int .i64 (s : Int), .int .i64 h, .pointer (some ⟨g, 0, none⟩)] w fun e w' => e = .returned (.bool (mayFst n s h)) ∧ w' = w := by
  unfold mayFst
  by_cases h1 : h = 0
  · have t1 : (h != 0) = false := by rw [h1]; rfl
    by_cases h2 : s = 0
    · have t2 : ((s : Int) == 0) = true := by rw [h2]; rfl
      have t3 : (s == 0) = true := by rw [h2]; rfl
      rw [t1, t3]
      clear h1 h2
      go_enter Try.func24, Try.ntmps24
      go_wp2
      go_ret
      exact ⟨rfl, rfl⟩
    · have t2 : ((s : Int) == 0) = false := by rw [beq_eq_false_iff_ne]; omega
      have t3 : (s == 0) = false := by rw [beq_eq_false_iff_ne]; exact h2
      have t4 : Hid ((s == n) = ((s : Int) == (n : Int))) := by
        show _ = _
        by_cases e : s = n
        · subst e; simp
        · rw [beq_eq_false_iff_ne.2 e, eq_comm, beq_eq_false_iff_ne]; omega
      rw [t1, t3, t4.out]
      clear h1 h2
      go_enter Try.func24, Try.ntmps24
      go_wp2
      go_ret
      exact ⟨rfl, rfl⟩
  · have t1 : (h != 0) = true := bne_iff_ne.2 h1
    rw [t1]
    clear h1
    go_enter Try.func24, Try.ntmps24
    go_wp2
    go_ret
    exact ⟨rfl, rfl⟩
end Go.Proofs.Ytojoecoocbjgaaa
