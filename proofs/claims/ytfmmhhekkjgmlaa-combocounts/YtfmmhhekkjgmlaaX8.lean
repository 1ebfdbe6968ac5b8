/- lotdrawerref.ERight, slices.Index, slices.Contains on integers. -/
import Derived.Test.YtfmmhhekkjgmlaaX1
import Derived.Deep.QuietTactic
import Derived.BigQuiet
import Derived.WalkSmall
namespace Go.Proofs.Ytfmmhhekkjgmlaa
open Go.RowKit Go.Deep

def RCto (n : Int) (c : List Int) (k : Nat) : Prop := (0 ≤ n ∧ n ≤ 60) ∧ ∀ j, j < k → low c j ≤ c.getD j 0 ∧ c.getD j 0 < n
instance (n : Int) (c : List Int) (k : Nat) : Decidable (RCto n c k) := by unfold RCto; infer_instance
def lst (c : List Int) (k : Nat) : Int := low c k - 1
theorem lst_succ (c : List Int) (k : Nat) : lst c (k + 1) = c.getD k 0 := by
  unfold lst; rw [show low c (k + 1) = c.getD k 0 + 1 from rfl]; omega
theorem rcto_zero (n : Int) (c : List Int) : RCto n c 0 ↔ 0 ≤ n ∧ n ≤ 60 := ⟨fun h => h.1, fun h => ⟨h, fun j hj => absurd hj (by omega)⟩⟩
theorem rcto_succ (n : Int) (c : List Int) (k : Nat) : RCto n c (k + 1) ↔ RCto n c k ∧ lst c k < c.getD k 0 ∧ c.getD k 0 < n := by
  unfold RCto lst
  constructor
  · rintro ⟨h1, h2⟩
    have h3 := h2 k (by omega)
    exact ⟨⟨h1, fun j hj => h2 j (by omega)⟩, by omega, by omega⟩
  · rintro ⟨⟨h1, h2⟩, h3, h4⟩
    refine ⟨h1, fun j hj => ?_⟩
    by_cases e : j = k
    · subst e; omega
    · exact h2 j (by omega)
theorem rcto_end (n : Int) (c : List Int) : RCto n c c.length ↔ RC n c := Iff.rfl

set_option maxRecDepth 100000 in
set_option maxHeartbeats 1000000 in
theorem eRight_any (n : Int) (A : Option Addr) (ca : Nat) (c : List Int) (w : World) (hc : IP w A ca c) :
    Calls Try.prog 13 #[.int .i64 n, .slice A c.length ca] w fun e w' => e = .returned (.bool (decide (RC n c))) ∧ w' = w := by
  have hle := hc.le
  have hcap := hc.cap
  have HC := Lib.hid hc
  clear hc
  have H0 := Lib.hid (rcto_zero n c)
  rcases (show n < 0 ∨ (0 ≤ n ∧ 60 < n) ∨ (0 ≤ n ∧ n ≤ 60) by omega) with h1 | ⟨h1, h2⟩ | ⟨h1, h2⟩
  case' inl =>
    have d1 : decide (0 ≤ n) = false := decide_eq_false (by omega)
    have HS : Hid (decide (RCto n c 0) = false) := decide_eq_false (fun h => by have := (H0.out.1 h).1; omega)
  case' inr.inl =>
    have d1 : decide (0 ≤ n) = true := decide_eq_true h1
    have d2 : decide (n ≤ 60) = false := decide_eq_false (by omega)
    have HS : Hid (decide (RCto n c 0) = false) := decide_eq_false (fun h => by have := (H0.out.1 h).2; omega)
  case' inr.inr =>
    have d1 : decide (0 ≤ n) = true := decide_eq_true h1
    have d2 : decide (n ≤ 60) = true := decide_eq_true h2
    have HS : Hid (decide (RCto n c 0) = true) := decide_eq_true (H0.out.2 ⟨h1, h2⟩)
  all_goals
    clear H0
    go_enter Try.func13, Try.ntmps13
    go_wp2_with fail
    go_loopw [5, 6, 17] (fun ov lv iv wr => ∃ k : Nat, k ≤ c.length ∧ ov = .bool (decide (RCto n c k)) ∧ lv = .int .i64 (lst c k) ∧ iv = .int .i64 k ∧ wr = w) (fun _ _ iv _ => c.length - (intOf iv).toNat)
    case atStart => exact ⟨0, by omega, by rw [HS.out], rfl, rfl, rfl⟩
    case round =>
      clear HS
      obtain ⟨k, hk, rfl, rfl, rfl, rfl⟩ := hrel
      by_cases hlt : k < c.length
      · obtain ⟨b, off, rfl, _, hcell⟩ := HC.out.il.at (by omega)
        have hci := hcell k hlt
        have HL := Lib.hid (lst_succ c k)
        have hs := rcto_succ n c k
        clear hcell
        by_cases h3 : RCto n c k
        · rw [decide_eq_true h3]
          by_cases h4 : lst c k < c.getD k 0
          · by_cases h5 : c.getD k 0 < n
            · have E : Hid (decide (RCto n c (k + 1)) = true) := decide_eq_true (hs.2 ⟨h3, h4, h5⟩)
              generalize lst c k = y at *
              obtain ⟨x, hx⟩ : ∃ x, c.getD k 0 = x := ⟨_, rfl⟩
              rw [hx] at hci HL h4 h5
              clear hs h3 hx
              go_wp2
              go_roundw
              case rel => exact ⟨k + 1, by omega, by rw [E.out], by rw [HL.out], by go_num, trivial⟩
              case measure => simp [intOf]; omega
            · have E : Hid (decide (RCto n c (k + 1)) = false) := decide_eq_false (fun h => h5 (hs.1 h).2.2)
              generalize lst c k = y at *
              obtain ⟨x, hx⟩ : ∃ x, c.getD k 0 = x := ⟨_, rfl⟩
              rw [hx] at hci HL h4 h5
              clear hs h3 hx
              go_wp2
              go_roundw
              case rel => exact ⟨k + 1, by omega, by rw [E.out], by rw [HL.out], by go_num, trivial⟩
              case measure => simp [intOf]; omega
          · have E : Hid (decide (RCto n c (k + 1)) = false) := decide_eq_false (fun h => h4 (hs.1 h).2.1)
            generalize lst c k = y at *
            obtain ⟨x, hx⟩ : ∃ x, c.getD k 0 = x := ⟨_, rfl⟩
            rw [hx] at hci HL h4
            clear hs h3 hx
            go_wp2
            go_roundw
            case rel => exact ⟨k + 1, by omega, by rw [E.out], by rw [HL.out], by go_num, trivial⟩
            case measure => simp [intOf]; omega
        · rw [decide_eq_false h3]
          have E : Hid (decide (RCto n c (k + 1)) = false) := decide_eq_false (fun h => h3 (hs.1 h).1)
          generalize lst c k = y at *
          obtain ⟨x, hx⟩ : ∃ x, c.getD k 0 = x := ⟨_, rfl⟩
          rw [hx] at hci HL
          clear hs h3 hx
          go_wp2
          go_roundw
          case rel => exact ⟨k + 1, by omega, by rw [E.out], by rw [HL.out], by go_num, trivial⟩
          case measure => simp [intOf]; omega
      · obtain rfl : c.length = k := by omega
        generalize lst c c.length = y at *
        have E : Hid (decide (RCto n c c.length) = decide (RC n c)) := rfl
        generalize decide (RCto n c c.length) = bb at *
        go_wp2
        go_ret
        exact ⟨retB E.out, rfl⟩

def IxPost (c : List Int) (x : Int) (w : World) (e : Ending) (w' : World) : Prop := ∃ r : Int, e = .returned (.int .i64 r) ∧ Below w.heap.size w w' ∧ decide (0 ≤ r) = decide (x ∈ c)
set_option maxRecDepth 100000 in
set_option maxHeartbeats 1000000 in
theorem indexI_any (A : Option Addr) (ca : Nat) (c : List Int) (x : Int) (w : World) (hc : IP w A ca c) :
    Calls Try.prog 25 #[.slice A c.length ca, .int .i64 x] w (IxPost c x w) := by
  have hle := hc.le
  have hcap := hc.cap
  have HC := Lib.hid hc
  clear hc
  go_enter Try.func25, Try.ntmps25
  go_wp2_with fail
  go_loopw [8] (fun iv wr => ∃ k : Nat, k ≤ c.length ∧ iv = .int .i64 k ∧ (∀ j, j < k → c.getD j 0 ≠ x) ∧ Below w.heap.size w wr) (fun iv _ => c.length - (intOf iv).toNat)
  case atStart => exact ⟨0, by omega, rfl, fun j hj => absurd hj (by omega), Below.refl _ _⟩
  case round =>
    obtain ⟨k, hk, rfl, hj, hB⟩ := hrel
    have HJ := Lib.hid hj
    have HB := Lib.hid hB
    clear hj hB
    by_cases hlt : k < c.length
    · obtain ⟨b, off, rfl, _, hcell⟩ := (HC.out.later HB.out).il.at (by omega)
      have hci := hcell k hlt
      clear hcell
      have i1 : (k : Int) < (c.length : Int) := by omega
      by_cases he : c.getD k 0 = x
      · have E : Hid (x ∈ c) := by show x ∈ c; rw [← he]; exact getD_mem hlt
        rw [he] at hci
        have t1 : (x == x) = true := by simp
        clear he
        go_wp2
        go_ret
        exact ⟨k, rfl, HB.out, by rw [decide_eq_true E.out]; simp⟩
      · have E : Hid (∀ j, j < k + 1 → c.getD j 0 ≠ x) := fun j hj => by
          by_cases e : j = k
          · subst e; exact he
          · exact HJ.out j (by omega)
        have t1 : (x == c.getD k 0) = false := by rw [beq_eq_false_iff_ne]; exact fun h => he h.symm
        generalize c.getD k 0 = y at *
        clear he
        go_wp2
        go_roundw
        case rel => exact ⟨k + 1, by omega, by go_num, E.out, HB.out⟩
        case measure => simp [intOf]; omega
    · obtain rfl : c.length = k := by omega
      have E : Hid (x ∉ c) := fun h => by
        obtain ⟨j, hj, e⟩ := mem_getD h
        exact HJ.out j hj e
      go_wp2
      go_ret
      exact ⟨-1, rfl, HB.out, by rw [decide_eq_false E.out]; simp⟩

set_option maxHeartbeats 1000000 in
theorem containsI_any (A : Option Addr) (ca : Nat) (c : List Int) (x : Int) (w : World) (hc : IP w A ca c) :
    Calls Try.prog 14 #[.slice A c.length ca, .int .i64 x] w fun e w' => e = .returned (.bool (decide (x ∈ c))) ∧ Below w.heap.size w w' := by
  have C := Lib.hid (indexI_any A ca c x w hc)
  go_enter Try.func14, Try.ntmps14
  go_wp2_with fail
  refine C.out.mono ?_
  rintro e w1 ⟨r, rfl, hB, hd⟩
  have HD := Lib.hid hd
  clear hd
  go_wp2
  go_ret
  exact ⟨retB HD.out, hB⟩
end Go.Proofs.Ytfmmhhekkjgmlaa
