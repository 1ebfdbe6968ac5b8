/- slices.Min and Max of integers. -/
import Derived.Test.YtimcbeblmicioaaIv
namespace Go.Proofs.Ytimcbeblmicioaa
open Go.RowKit Go.Deep

theorem getD_memI {xs : List Int} {k : Nat} (h : k < xs.length) : xs.getD k 0 ∈ xs := by
  rw [List.getD_eq_getElem?_getD, List.getElem?_eq_getElem h]; exact List.getElem_mem h
theorem all_getD {xs : List Int} {P : Int → Prop} (h : ∀ j, j < xs.length → P (xs.getD j 0)) : ∀ y ∈ xs, P y := by
  intro y hy
  obtain ⟨i, hi, e⟩ := List.getElem_of_mem hy
  have := h i hi
  rw [List.getD_eq_getElem?_getD, List.getElem?_eq_getElem hi, Option.getD_some, e] at this
  exact this
set_option maxRecDepth 100000 in
set_option maxHeartbeats 1000000 in
theorem min_any (A : Option Addr) (ca : Nat) (xs : List Int) (w : World) (hX : IP w A ca xs) (h0 : 0 < xs.length) :
    Calls Try.prog 21 #[.slice A xs.length ca] w fun e w' => (∃ m, e = .returned (.int .i64 m) ∧ m ∈ xs ∧ ∀ y ∈ xs, m ≤ y) ∧ w' = w := by
  have hle := hX.le
  have hcap := hX.cap
  obtain ⟨b, off, rfl, _, hcell⟩ := hX.il.at h0
  have HC := Lib.hid hcell
  have c00 := hcell 0 h0
  have HM0 := Lib.hid (getD_memI h0)
  have h1 : ¬ (xs.length : Int) < 1 := by omega
  have h0i : (0 : Int) < (xs.length : Int) := by omega
  rw [Nat.add_zero] at c00
  clear hX hcell
  obtain ⟨x0, hx0⟩ : ∃ x0, xs.getD 0 0 = x0 := ⟨_, rfl⟩
  have HX0 := Lib.hid hx0
  rw [hx0] at c00 HM0
  have H00 : Hid (∀ j, j < 1 → x0 ≤ xs.getD j 0) := fun j hj => by
    have : j = 0 := by omega
    subst this
    have := HX0.out
    omega
  clear hx0
  go_enter Try.func21, Try.ntmps21
  go_wp2
  go_loop [3, 4] (fun mv iv => ∃ (k : Nat) (m : Int), 1 ≤ k ∧ k ≤ xs.length ∧ iv = .int .i64 k ∧ mv = .int .i64 m ∧ m ∈ xs ∧ ∀ j, j < k → m ≤ xs.getD j 0) (fun _ iv => xs.length - (intOf iv).toNat)
  case atStart => exact ⟨1, x0, Nat.le_refl _, by omega, rfl, rfl, HM0.out, fun j hj => H00.out j hj⟩
  case round =>
    obtain ⟨k, m, hk1, hk2, rfl, rfl, hm, hJ⟩ := hrel
    have HM := Lib.hid hm
    have HJ := Lib.hid hJ
    clear hm hJ c00 HM0 HX0 H00
    by_cases hlt : k < xs.length
    · have hc := HC.out k hlt
      have hki : (k : Int) < (xs.length : Int) := by omega
      have hmem := getD_memI hlt
      have HK := Lib.hid hmem
      clear hmem
      by_cases hs : xs.getD k 0 < m
      · have HN : Hid (∀ j, j < k + 1 → xs.getD k 0 ≤ xs.getD j 0) := fun j hj => by
          by_cases e : j = k
          · rw [e]; exact Int.le_refl _
          · have := HJ.out j (by omega); omega
        have hmin : min m (xs.getD k 0) = xs.getD k 0 := by omega
        generalize xs.getD k 0 = y at *
        go_wp2
        go_round
        case rel => exact ⟨k + 1, y, by omega, by omega, by go_num, rfl, HK.out, HN.out⟩
        case measure => simp [intOf]; omega
      · have HN : Hid (∀ j, j < k + 1 → m ≤ xs.getD j 0) := fun j hj => by
          by_cases e : j = k
          · rw [e]; omega
          · exact HJ.out j (by omega)
        have hmin : min m (xs.getD k 0) = m := by omega
        generalize xs.getD k 0 = y at *
        go_wp2
        go_round
        case rel => exact ⟨k + 1, m, by omega, by omega, by go_num, rfl, HM.out, HN.out⟩
        case measure => simp [intOf]; omega
    · obtain rfl : k = xs.length := by omega
      go_wp2
      go_ret
      exact ⟨⟨m, rfl, HM.out, all_getD HJ.out⟩, rfl⟩
set_option maxRecDepth 100000 in
set_option maxHeartbeats 1000000 in
theorem max_any (A : Option Addr) (ca : Nat) (xs : List Int) (w : World) (hX : IP w A ca xs) (h0 : 0 < xs.length) :
    Calls Try.prog 22 #[.slice A xs.length ca] w fun e w' => (∃ m, e = .returned (.int .i64 m) ∧ m ∈ xs ∧ ∀ y ∈ xs, y ≤ m) ∧ w' = w := by
  have hle := hX.le
  have hcap := hX.cap
  obtain ⟨b, off, rfl, _, hcell⟩ := hX.il.at h0
  have HC := Lib.hid hcell
  have c00 := hcell 0 h0
  have HM0 := Lib.hid (getD_memI h0)
  have h1 : ¬ (xs.length : Int) < 1 := by omega
  have h0i : (0 : Int) < (xs.length : Int) := by omega
  rw [Nat.add_zero] at c00
  clear hX hcell
  obtain ⟨x0, hx0⟩ : ∃ x0, xs.getD 0 0 = x0 := ⟨_, rfl⟩
  have HX0 := Lib.hid hx0
  rw [hx0] at c00 HM0
  have H00 : Hid (∀ j, j < 1 → xs.getD j 0 ≤ x0) := fun j hj => by
    have : j = 0 := by omega
    subst this
    have := HX0.out
    omega
  clear hx0
  go_enter Try.func22, Try.ntmps22
  go_wp2
  go_loop [3, 4] (fun mv iv => ∃ (k : Nat) (m : Int), 1 ≤ k ∧ k ≤ xs.length ∧ iv = .int .i64 k ∧ mv = .int .i64 m ∧ m ∈ xs ∧ ∀ j, j < k → xs.getD j 0 ≤ m) (fun _ iv => xs.length - (intOf iv).toNat)
  case atStart => exact ⟨1, x0, Nat.le_refl _, by omega, rfl, rfl, HM0.out, fun j hj => H00.out j hj⟩
  case round =>
    obtain ⟨k, m, hk1, hk2, rfl, rfl, hm, hJ⟩ := hrel
    have HM := Lib.hid hm
    have HJ := Lib.hid hJ
    clear hm hJ c00 HM0 HX0 H00
    by_cases hlt : k < xs.length
    · have hc := HC.out k hlt
      have hki : (k : Int) < (xs.length : Int) := by omega
      have hmem := getD_memI hlt
      have HK := Lib.hid hmem
      clear hmem
      by_cases hs : m < xs.getD k 0
      · have HN : Hid (∀ j, j < k + 1 → xs.getD j 0 ≤ xs.getD k 0) := fun j hj => by
          by_cases e : j = k
          · rw [e]; exact Int.le_refl _
          · have := HJ.out j (by omega); omega
        have hmax : max m (xs.getD k 0) = xs.getD k 0 := by omega
        generalize xs.getD k 0 = y at *
        go_wp2
        go_round
        case rel => exact ⟨k + 1, y, by omega, by omega, by go_num, rfl, HK.out, HN.out⟩
        case measure => simp [intOf]; omega
      · have HN : Hid (∀ j, j < k + 1 → xs.getD j 0 ≤ m) := fun j hj => by
          by_cases e : j = k
          · rw [e]; omega
          · exact HJ.out j (by omega)
        have hmax : max m (xs.getD k 0) = m := by omega
        generalize xs.getD k 0 = y at *
        go_wp2
        go_round
        case rel => exact ⟨k + 1, m, by omega, by omega, by go_num, rfl, HM.out, HN.out⟩
        case measure => simp [intOf]; omega
    · obtain rfl : k = xs.length := by omega
      go_wp2
      go_ret
      exact ⟨⟨m, rfl, HM.out, all_getD HJ.out⟩, rfl⟩
end Go.Proofs.Ytimcbeblmicioaa
