/- slices.Delete of one: whatever the length. -/
import Derived.Test.YtjhcbjpbmbjgoaaOi
import Derived.Test.YtjhcbjpbmbjgoaaAp
import Derived.Deep.QuietTactic
import Derived.BigQuiet
import Derived.WalkSmall
import Derived.Deep.RegionLaw
import Derived.Lib.SliceRun
namespace Go.Proofs.Ytjhcbjpbmbjgoaa
open Go.RowKit Go.Deep

/-- What is moved one to the left. -/
def mvd (u : List Int) (c : Nat) : List Value := (ivs u).drop (c + 1)
theorem mvd_len (u : List Int) (c : Nat) : (mvd u c).length = u.length - (c + 1) := by simp [mvd, ivs]
theorem erase_ivs (u : List Int) (c : Nat) : ivs (u.eraseIdx c) = (ivs u).take c ++ mvd u c := by
  rw [List.eraseIdx_eq_take_drop_succ, ivs_append, ivs_take, ivs_drop]; rfl
def DPost (g n : Nat) (u : List Int) (c : Nat) (w : World) (e : Ending) (w' : World) : Prop :=
  e = .returned (.slice (some ⟨g, 0, none⟩) (u.eraseIdx c).length n) ∧ Below g w w' ∧ (∀ k, k < w.heap.size → k ≠ g → w'.heap[k]? = w.heap[k]?) ∧ ∃ cur, Bs 3 w' g cur ∧ cur.length = n ∧ cur.take (u.eraseIdx c).length = ivs (u.eraseIdx c)
theorem take_at {cur : List Value} {u : List Int} {j : Nat} (ht : cur.take u.length = ivs u) (hj : j < u.length) : cur[j]? = (ivs u)[j]? := by
  rw [← ht, List.getElem?_take, if_pos hj]
theorem put_block {g : Nat} (vs : List Value) : ∀ {w : World} (o : Nat) {k : Nat}, k ≠ g → (w.setCells g o vs).heap[k]? = w.heap[k]? := by
  induction vs with
  | nil => intro w o k _; rfl
  | cons v r ih => intro w o k hk; exact (ih (o + 1) hk).trans (Below.heap_setCell w _ _ _ hk)

theorem zeroI (w : World) : (zeroValue 3).run Try.prog w = .ok (.int .i64 0) w := by
  obtain ⟨i0, hi0, hz0, _, _⟩ := info_parts info_int
  simp [zeroValue, typeInfo, hi0, hz0]
theorem del_end {g n c : Nat} {u : List Int} {cur : List Value} {w : World} (hb : Bs 3 w g cur) (hcl : cur.length = n) (ht : cur.take u.length = ivs u) (hc : c < u.length) :
    DPost g n u c w (.returned (.slice (some ⟨g, 0, none⟩) (c + (u.length - (c + 1))) n)) ((w.drew.setCells g c (mvd u c)).setCells g (c + (u.length - (c + 1))) (List.replicate (u.length - (c + (u.length - (c + 1)))) (.int .i64 0))) := by
  have hun : u.length ≤ n := by
    have := congrArg List.length ht
    simp [ivs_len] at this; omega
  have hlen : (u.eraseIdx c).length = c + (u.length - (c + 1)) := by rw [List.length_eraseIdx, if_pos hc]; omega
  refine ⟨by rw [hlen], below_put (Nat.le_refl _) _ _ (below_put (Nat.le_refl _) _ _ (Below.refl _ w).drew), fun k _ hk => (put_block _ _ hk).trans (put_block _ _ hk), _, Bs.put _ _ (Bs.put (mvd u c) c (show Bs 3 w.drew g cur from hb)), by rw [putL_len, putL_len]; exact hcl, ?_⟩
  have e1 : u.length - (c + (u.length - (c + 1))) = 1 := by omega
  rw [e1, List.replicate_one, hlen]
  have h1 := putL_take (mvd u c) cur c (by rw [mvd_len]; omega)
  rw [mvd_len] at h1
  show ((putL cur c (mvd u c)).set (c + (u.length - (c + 1))) (.int .i64 0)).take (c + (u.length - (c + 1))) = _
  rw [List.take_set_of_le (Nat.le_refl _), h1, erase_ivs, ← ht, List.take_take, show min c u.length = c by omega]

set_option maxRecDepth 1000000 in
set_option maxHeartbeats 1600000 in
theorem deleteB_any (g n c : Nat) (u : List Int) (cur : List Value) (w : World) (hb : Bs 3 w g cur) (hcl : cur.length = n) (ht : cur.take u.length = ivs u) (hc : c < u.length) (hn : n ≤ 9223372036854775807) :
    Calls Try.prog 43 #[.slice (some ⟨g, 0, none⟩) u.length n, .int .i64 c, .int .i64 ((c : Int) + 1)] w (DPost g n u c w) := by
  obtain ⟨i0, hi0, hz0, hz1, hz2⟩ := info_parts info_int
  have hun : u.length ≤ n := by
    have := congrArg List.length ht
    simp [ivs_len] at this; omega
  obtain ⟨A, hA, hnews⟩ : ∃ A : Addr, (if n = c + 1 then some (⟨g, 0, none⟩ : Addr) else some ⟨g, c + 1, none⟩) = some A ∧ Hid (∀ j v, (mvd u c)[j]? = some v → w.drew.cell? (A.add j) = some v) := by
    by_cases h : n = c + 1
    · refine ⟨⟨g, 0, none⟩, by simp [h], fun j v hv => ?_⟩
      have h0 : (mvd u c).length = 0 := by rw [mvd_len]; omega
      rw [List.length_eq_zero_iff.1 h0] at hv
      simp at hv
    · refine ⟨⟨g, c + 1, none⟩, by simp [h], fun j v hv => ?_⟩
      have hj : j < u.length - (c + 1) := by
        have := (List.getElem?_eq_some_iff.1 hv).1
        rwa [mvd_len] at this
      rw [Addr.add_lit]
      show w.cell? _ = _
      rw [hb.cell (by omega), take_at ht (by omega), ← hv]
      simp [mvd, Nat.add_comm, Nat.add_left_comm]
  have s1 : Hid ((mvd u c).length = (u.length - (c + 1)) * 1) := by rw [Nat.mul_one]; exact mvd_len u c
  have s2 : Hid (∀ v ∈ mvd u c, v.oneCell' = true) := by
    intro v hv
    obtain ⟨x, _, rfl⟩ := List.mem_map.1 (List.mem_of_mem_drop hv)
    rfl
  have s3 : Hid (∀ j, j < (mvd u c).length → (w.drew.cell? ⟨g, 0 + c * 1 + j, none⟩).isSome = true ∧ w.drew.frozen? ⟨g, 0 + c * 1 + j, none⟩ = false) := by
    intro j hj
    rw [mvd_len] at hj
    rw [Nat.mul_one, Nat.zero_add]
    refine ⟨?_, hb.frozen _⟩
    show (w.cell? _).isSome = true
    rw [hb.cell (by omega), List.getElem?_eq_getElem (by omega)]; rfl
  have hcn : c ≤ n := by omega
  have hp0 : (0 : Int) ≤ (c : Int) + 1 := by omega
  have hp1 : (c : Int) + 1 ≤ (u.length : Int) := by omega
  have hp2 : ((c : Int) + 1).toNat = c + 1 := by omega
  have hp3 : ((c : Int) == (c : Int) + 1) = false := by rw [beq_eq_false_iff_ne]; omega
  have hb1 : Bs 3 (w.drew.setCells g c (mvd u c)) g (putL cur c (mvd u c)) := Bs.put (mvd u c) c (show Bs 3 w.drew g cur from hb)
  have hclr : ∀ ty, (Builtin.clear_ #[26] ty #[.slice (some ⟨g, c + (u.length - (c + 1)), none⟩) (u.length - (c + (u.length - (c + 1)))) (n - (c + (u.length - (c + 1))))]).run Try.prog (w.drew.setCells g c (mvd u c)) = .ok (.tuple #[]) ((w.drew.setCells g c (mvd u c)).setCells g (c + (u.length - (c + 1))) (List.replicate (u.length - (c + (u.length - (c + 1)))) (.int .i64 0))) :=
    fun ty => Lib.run_clear_slice _ _ _ ty _ Try.underlying26 zeroI rfl rfl g _ _ _ (by omega) (fun j hj => by
      rw [hb1.cell (by rw [putL_len]; omega), List.getElem?_eq_getElem (by rw [putL_len]; omega)]; rfl) (fun j _ => hb1.frozen _)
  have E := Lib.hid (del_end hb hcl ht hc)
  clear hb hcl ht hb1
  go_enter Try.func43, Try.ntmps43
  go_wp2_with fail
  go_region_law (refine step_append_room rfl (.tmp 22) (.tmp 25) 26 rfl 3 i0 1 Try.underlying26 hi0 hz1 g 0 c n (by simp [Act.eval, Act.put]) A (u.length - (c + 1)) (n - (c + 1)) (mvd u c) (by simp [Act.eval, Act.put]) s1.out hnews.out s2.out (by omega) s3.out ?_)
  go_wp2
  go_ret
  exact E.out

/-- 'x = slices.Delete(x, c, c+1)' on a slice of the call's own. -/
theorem delete_any (v : Value) (B c : Nat) (u : List Int) (w : World) (h : OI w B v u) (hc : c < u.length) :
    Calls Try.prog 43 #[v, .int .i64 c, .int .i64 ((c : Int) + 1)] w fun e w' => ∃ v', e = .returned v' ∧ OI w' B v' (u.eraseIdx c) ∧ Below B w w' ∧ ∀ k, k < w.heap.size → v.ownBlock ≠ some k → w'.heap[k]? = w.heap[k]? := by
  rcases h.2 with ⟨rfl, h1⟩ | ⟨g, cap, cur, rfl, hB, hg, hc1, hcm, hcs, ht⟩
  · omega
  · have hb : Bs 3 w g cur.toList := by simpa [Bs] using hg
    have hcap : cap ≤ 9223372036854775807 := by unfold maxLen at hcm; omega
    refine (deleteB_any g cap c u cur.toList w hb (by simpa using hcs) (by simpa using ht) hc (by omega)).mono ?_
    rintro e w' ⟨rfl, hbel, hblk, cur2, hb2, hl2, ht2⟩
    refine ⟨_, rfl, ?_, hbel.mono hB, fun k hk hne => hblk k hk (fun e => hne (by rw [e]; rfl))⟩
    have hle : (u.eraseIdx c).length ≤ cap := by
      have : (u.eraseIdx c).length ≤ u.length := List.length_eraseIdx_le u c
      omega
    exact ⟨by simp [ivs_len], .inr ⟨g, cap, cur2.toArray, rfl, hB, hb2, hle, hcm, by simpa using hl2, by simpa using ht2⟩⟩
end Go.Proofs.Ytjhcbjpbmbjgoaa
