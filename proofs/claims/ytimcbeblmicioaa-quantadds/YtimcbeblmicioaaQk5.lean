/- Entries: slices.Clone, slices.Delete of one that is not the last. -/
import Derived.Test.YtimcbeblmicioaaQm6
import Derived.Test.YtimcbeblmicioaaQm4
import Derived.Deep.QuietTactic
import Derived.BigQuiet
import Derived.WalkSmall
import Derived.Deep.RegionLaw
import Derived.Lib.SliceRun
namespace Go.Proofs.Ytimcbeblmicioaa
open Go.RowKit Go.Deep

theorem OR.made (w : World) : OR (w.alloc (.cells #[] 33)) w.heap.size (.slice (some ⟨w.heap.size, 0, none⟩) 0 0) [] := World.ownsRow_made w #[] 0 (Nat.le_refl _) (Nat.zero_le _) rfl
set_option maxRecDepth 100000 in
set_option maxHeartbeats 1000000 in
theorem cloneR_any (A : Option Addr) (ca : Nat) (S : List Rk) (w : World) (hS : RP w A ca S) (hl : S.length ≤ 400) :
    Calls Try.prog 25 #[.slice A S.length ca] w fun e w' => ∃ v, e = .returned v ∧ OR w' w.heap.size v S ∧ Below w.heap.size w w' := by
  have q22 : ∀ (w : World) (a : Option Addr) (n c n' c' : Nat), (binOp .eql 22 (.slice a n c) (.slice none n' c')).run Try.prog w = .ok (.bool a.isNone) w := fun w a n c n' c' => Lib.run_eql_slice_nil w _ _ a n c n' c' Try.underlying22
  have hle := hS.le
  cases A with
  | none =>
    obtain rfl : ca = 0 := hS.none rfl
    obtain rfl : S = [] := List.eq_nil_of_length_eq_zero (by omega)
    clear hS
    go_enter Try.func25, Try.ntmps25
    go_wp2
    go_ret
    exact ⟨_, rfl, OR.nil _ _, Below.refl _ _⟩
  | some a =>
    have HM := Lib.hid (OR.made w)
    have HS := Lib.hid (hS.later ((Below.refl _ w).alloc (Nat.le_refl _) (.cells #[] 33)))
    have hb1 : w.heap.size ≤ (w.alloc (.cells #[] 33)).heap.size := by simp
    have HB1 := Lib.hid hb1
    clear hS hb1
    go_enter Try.func25, Try.ntmps25
    go_wp2_with (at_builtin; refine wpList_appR rfl _ _ rfl w.heap.size _ [] rfl HM.out (some a) S.length ca S rfl rfl HS.out (by simp; omega) HB1.out ?_)
    intro v' w1 hown hb _
    go_wp2
    go_ret
    exact ⟨_, rfl, hown, ((Below.refl _ w).alloc (Nat.le_refl _) _).trans hb⟩

/-- An entry of zeros. -/
def zR : List Value := [.int .i64 0, .int .i64 0, .int .i64 0]
theorem zeroR (w : World) : (zeroValue 33).run Try.prog w = .ok (.agg #[.int .i64 0, .int .i64 0, .int .i64 0]) w := by
  obtain ⟨i0, hi0, hz0, _, _⟩ := info_parts info_rank
  simp [zeroValue, typeInfo, hi0, hz0]
theorem run_clearR (w : World) (ty : TypeId) (b o n c : Nat) (hn : n = 1) (hc : ∀ j, j < 3 → (w.cell? ⟨b, o + j, none⟩).isSome = true) (hf : ∀ j, j < 3 → w.frozen? ⟨b, o + j, none⟩ = false) :
    (Builtin.clear_ #[22] ty #[.slice (some ⟨b, o, none⟩) n c]).run Try.prog w = .ok (.tuple #[]) (w.setCells b o zR) := by
  subst hn
  have hst := run_storeCells_cells (P := Try.prog) b o zR 0 w (by simpa [zR] using hc) (by simpa [zR] using hf) (by intro v hv; simp [zR] at hv; rw [hv]; rfl)
  simp only [Nat.add_zero] at hst
  have hzc : (Builtin.zeroCells (Value.agg #[.int .i64 0, .int .i64 0, .int .i64 0]).cells 1).toList = zR := by
    have hc : (Value.agg #[.int .i64 0, .int .i64 0, .int .i64 0]).cells = #[.int .i64 0, .int .i64 0, .int .i64 0] := by simp [Value.cells]
    rw [hc]
    unfold Builtin.zeroCells
    rw [Array.toList_map, Array.toList_range]
    simp [zR, List.range_succ]
  simp [Builtin.clear_, run_underlying Try.underlying22, zeroR, hzc, hst]
theorem rvs_one {S : List Rk} : ∀ v ∈ rvs S, v.oneCell' = true := by
  intro u hu
  obtain ⟨j, hj⟩ := List.getElem?_of_mem hu
  have hj2 : j < S.length * 3 := by have := (List.getElem?_eq_some_iff.1 hj).1; rwa [rvs_len] at this
  obtain ⟨i, hi⟩ : ∃ i, j = i * 3 ∨ j = i * 3 + 1 ∨ j = i * 3 + 2 := ⟨j / 3, by omega⟩
  have hil : i < S.length := by omega
  obtain ⟨r0, r1, r2⟩ := rvs_at hil
  rcases hi with rfl | rfl | rfl
  · rw [r0] at hj; cases hj; rfl
  · rw [r1] at hj; cases hj; rfl
  · rw [r2] at hj; cases hj; rfl
theorem rvs_drop : ∀ (S : List Rk) (k : Nat), (rvs S).drop (k * 3) = rvs (S.drop k)
  | [], k => by simp [rvs]
  | r :: S, 0 => by simp
  | r :: S, k + 1 => by
    rw [show (k + 1) * 3 = k * 3 + 1 + 1 + 1 by omega, rvs]
    simp only [List.drop_succ_cons]
    exact rvs_drop S k
theorem rvs_take : ∀ (S : List Rk) (k : Nat), (rvs S).take (k * 3) = rvs (S.take k)
  | [], k => by simp [rvs]
  | r :: S, 0 => by simp [rvs]
  | r :: S, k + 1 => by
    rw [show (k + 1) * 3 = k * 3 + 1 + 1 + 1 by omega, rvs]
    simp only [List.take_succ_cons, rvs]
    rw [rvs_take S k]
theorem cell_take {T : Nat} {w : World} {g n : Nat} {cur : List Value} {S : List Rk} (hb : Bs T w g cur) (ht : cur.take (n * 3) = rvs S) (hl : S.length = n) {j : Nat} (hj : j < n * 3) : w.cell? ⟨g, j, none⟩ = (rvs S)[j]? := by
  have h1 := congrArg List.length ht
  rw [rvs_len, hl, List.length_take] at h1
  rw [hb.cell (by omega), ← ht, List.getElem?_take, if_pos hj]
theorem OR.parts {w : World} {B g n c : Nat} {S : List Rk} (h : OR w B (.slice (some ⟨g, 0, none⟩) n c) S) : ∃ cur : List Value, Bs 33 w g cur ∧ cur.length = c * 3 ∧ cur.take (n * 3) = rvs S ∧ S.length = n ∧ n ≤ c ∧ c ≤ 9223372036854775807 ∧ B ≤ g ∧ g < w.heap.size := by
  have hl := h.1
  rcases h.2 with ⟨h1, _⟩ | ⟨g', cap', cur, e, hB, hg, h1, h2, h3, h4⟩
  · cases h1
  · injection e with e1 e2 e3
    injection e1 with e1
    injection e1 with e1
    subst e1 e2 e3
    rw [rvs_len] at hl
    exact ⟨cur.toList, by simpa [Bs] using hg, by simpa using h3, by simpa using h4, rfl, h1, by unfold maxLen at h2; omega, hB, lt_of_block hg⟩
theorem OR.of_parts {w : World} {B g n c : Nat} {S : List Rk} {cur : List Value} (hb : Bs 33 w g cur) (hc : cur.length = c * 3) (ht : cur.take (n * 3) = rvs S) (hl : S.length = n) (h1 : n ≤ c) (h2 : c ≤ 9223372036854775807) (hB : B ≤ g) : OR w B (.slice (some ⟨g, 0, none⟩) n c) S := by
  subst hl
  exact ⟨by rw [rvs_len], .inr ⟨g, c, cur.toArray, rfl, hB, hb, h1, by unfold maxLen; omega, by simpa using hc, by simpa using ht⟩⟩
theorem erase_rvs (S : List Rk) (i : Nat) : rvs (S.eraseIdx i) = (rvs S).take (i * 3) ++ rvs (S.drop (i + 1)) := by
  rw [List.eraseIdx_eq_take_drop_succ, rvs_app, rvs_take]
end Go.Proofs.Ytimcbeblmicioaa
