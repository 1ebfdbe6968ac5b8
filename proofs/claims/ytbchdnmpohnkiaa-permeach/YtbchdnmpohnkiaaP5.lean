/- perm.factorial, slices.Delete of one. -/
import Derived.Test.YtbchdnmpohnkiaaP4
import Derived.Test.YtbchdnmpohnkiaaPd
import Derived.Test.YtbchdnmpohnkiaaAp
import Derived.Deep.RegionLaw
import Derived.Lib.SliceRun
namespace Go.Proofs.Ytbchdnmpohnkiaa
open Go.RowKit Go.Deep

set_option maxRecDepth 100000 in
set_option maxHeartbeats 1000000 in
theorem factorial_any (n r : Nat) (w : World) (hn : n ≤ 20) (hr : r ≤ 9223372036854775807) :
    Calls Try.prog 27 #[.int .i64 n, .int .i64 r] w fun e w' => e = .returned (.tuple #[.slice (some ⟨w.heap.size, 0, none⟩) n n, .int .i64 (fd n r).2]) ∧ Bs 3 w' w.heap.size (ivs (ints (fd n r).1)) ∧ Below w.heap.size w w' := by
  have hmk := run_make_row' (P := Try.prog) 22 3 (.int .i64 0) 8 Try.underlying22 info_int rfl .i64 .i64 n (by omega) (by omega)
  have HS := Lib.hid (bs_zeros w n)
  rw [← fdTo_zero n r] at HS
  have HB : Hid (Below w.heap.size w (w.alloc (.cells (madeCells #[.int .i64 0] n) 3))) := (Below.refl _ _).alloc (Nat.le_refl _) _
  go_enter Try.func27, Try.ntmps27
  go_wp2_with fail
  go_loopw [1, 7] (fun rv iv wr => ∃ (m : Nat) (k : Int), k + 1 + (m : Int) = (n : Int) ∧ -1 ≤ k ∧ rv = .int .i64 ((fd m r).2 : Nat) ∧ iv = .int .i64 k ∧ Bs 3 wr w.heap.size (ivs (fdTo n m r)) ∧ Below w.heap.size w wr) (fun _ iv _ => (intOf iv + 1).toNat)
  case atStart => exact ⟨0, (n : Int) - 1, by omega, by omega, rfl, by go_num, HS.out, HB.out⟩
  case round =>
    clear HS HB hmk
    obtain ⟨m, k, hm, hk, rfl, rfl, hR, hB⟩ := hrel
    have HR := Lib.hid hR
    have HB := Lib.hid hB
    clear hR hB
    by_cases h0 : 0 ≤ k
    · obtain ⟨i, rfl⟩ : ∃ i : Nat, k = (i : Int) := ⟨k.toNat, by omega⟩
      have hmi : m + 1 + i = n := by omega
      have hin : i < n := by omega
      have hce := HR.out.atI (i := i) (by rw [fdTo_len _ (by omega)]; exact hin)
      have hfe := HR.out.frozen i
      have E := Lib.hid (HR.out.setI i (((fd m r).2 % (m + 1) : Nat) : Int))
      rw [fdTo_set r hmi] at E
      have EB := Lib.hid (HB.out.setCell (p := ⟨w.heap.size, i, none⟩) (Nat.le_refl _) (.int .i64 (((fd m r).2 % (m + 1) : Nat) : Int)))
      have hs : (fd m r).2 ≤ 9223372036854775807 := by rw [fd_rest]; exact Nat.le_trans (Nat.div_le_self _ _) hr
      have hs2 : (fd m r).2 / (m + 1) ≤ 9223372036854775807 := Nat.le_trans (Nat.div_le_self _ _) hs
      have hs3 : (fd m r).2 % (m + 1) ≤ 9223372036854775807 := Nat.le_trans (Nat.mod_le _ _) hs
      have e0 : (fd (m + 1) r).2 = (fd m r).2 / (m + 1) := rfl
      have E0 := Lib.hid e0
      clear e0
      generalize (fdTo n m r).getD i 0 = y at *
      generalize (fd m r).2 = s at *
      have e1 : (n : Int) - (i : Int) = ((m + 1 : Nat) : Int) := by omega
      obtain ⟨b, hb⟩ : ∃ b, m + 1 = b := ⟨_, rfl⟩
      have hb0 : b ≠ 0 := by omega
      have hb1 : b ≤ 20 := by omega
      rw [hb] at e1 hs2 hs3 E0 E EB
      have e2 : (s : Int).tmod (b : Int) = ((s % b : Nat) : Int) := by rw [Int.ofNat_tmod]
      have e3 : (s : Int).tdiv (b : Int) = ((s / b : Nat) : Int) := by rw [Int.ofNat_tdiv]
      have hz : ((b : Int) == 0) = false := eqz_no hb0
      generalize s % b = x at *
      generalize s / b = q at *
      have H1 : Hid (m + 1 = b) := hb
      clear hb hmi hm
      go_wp2
      go_roundw
      case rel => exact ⟨m + 1, (i : Int) - 1, by have := H1.out; omega, by omega, by rw [H1.out, E0.out], by go_num, by rw [H1.out]; exact E.out, EB.out⟩
      case measure => simp [intOf]
    · obtain rfl : k = -1 := by omega
      obtain rfl : m = n := by omega
      have E := HR.out
      rw [fdTo_end] at E
      have E := Lib.hid E
      clear HR
      go_wp2
      go_ret2
      exact ⟨rfl, E.out, HB.out⟩

/-- What is moved one to the left. -/
def mvd (u : List Int) (c : Nat) : List Value := (ivs u).drop (c + 1)
theorem mvd_len (u : List Int) (c : Nat) : (mvd u c).length = u.length - (c + 1) := by simp [mvd, ivs]
theorem erase_ivs (u : List Int) (c : Nat) : ivs (u.eraseIdx c) = (ivs u).take c ++ mvd u c := by
  rw [List.eraseIdx_eq_take_drop_succ, ivs_append, ivs_take, ivs_drop]; rfl
def DPost (g n : Nat) (u : List Int) (c : Nat) (w : World) (e : Ending) (w' : World) : Prop :=
  e = .returned (.slice (some ⟨g, 0, none⟩) (u.eraseIdx c).length n) ∧ Below g w w' ∧ ∃ cur, Bs 3 w' g cur ∧ cur.length = n ∧ cur.take (u.eraseIdx c).length = ivs (u.eraseIdx c)
theorem take_at {cur : List Value} {u : List Int} {j : Nat} (ht : cur.take u.length = ivs u) (hj : j < u.length) : cur[j]? = (ivs u)[j]? := by
  rw [← ht, List.getElem?_take, if_pos hj]

theorem zeroI (w : World) : (zeroValue 3).run Try.prog w = .ok (.int .i64 0) w := by
  obtain ⟨i0, hi0, hz0, _, _⟩ := info_parts info_int
  simp [zeroValue, typeInfo, hi0, hz0]
theorem del_end {g n c : Nat} {u : List Int} {cur : List Value} {w : World} (hb : Bs 3 w g cur) (hcl : cur.length = n) (ht : cur.take u.length = ivs u) (hc : c < u.length) (hn : n ≤ 20) :
    DPost g n u c w (.returned (.slice (some ⟨g, 0, none⟩) (c + (u.length - (c + 1))) n)) ((w.drew.setCells g c (mvd u c)).setCells g (c + (u.length - (c + 1))) (List.replicate (u.length - (c + (u.length - (c + 1)))) (.int .i64 0))) := by
  have hun : u.length ≤ n := by
    have := congrArg List.length ht
    simp [ivs_len] at this; omega
  have hlen : (u.eraseIdx c).length = c + (u.length - (c + 1)) := by rw [List.length_eraseIdx, if_pos hc]; omega
  refine ⟨by rw [hlen], below_put (Nat.le_refl _) _ _ (below_put (Nat.le_refl _) _ _ (Below.refl _ w).drew), _, Bs.put _ _ (Bs.put (mvd u c) c (show Bs 3 w.drew g cur from hb)), by rw [putL_len, putL_len]; exact hcl, ?_⟩
  have e1 : u.length - (c + (u.length - (c + 1))) = 1 := by omega
  rw [e1, List.replicate_one, hlen]
  have h1 := putL_take (mvd u c) cur c (by rw [mvd_len]; omega)
  rw [mvd_len] at h1
  show ((putL cur c (mvd u c)).set (c + (u.length - (c + 1))) (.int .i64 0)).take (c + (u.length - (c + 1))) = _
  rw [List.take_set_of_le (Nat.le_refl _), h1, erase_ivs, ← ht, List.take_take, show min c u.length = c by omega]

set_option maxRecDepth 1000000 in
set_option maxHeartbeats 1600000 in
theorem delete_any (g n c : Nat) (u : List Int) (cur : List Value) (w : World) (hb : Bs 3 w g cur) (hcl : cur.length = n) (ht : cur.take u.length = ivs u) (hc : c < u.length) (hn : n ≤ 20) :
    Calls Try.prog 28 #[.slice (some ⟨g, 0, none⟩) u.length n, .int .i64 c, .int .i64 ((c : Int) + 1)] w (DPost g n u c w) := by
  obtain ⟨i0, hi0, hz0, hz1, hz2⟩ := info_parts info_int
  have hun : u.length ≤ n := by
    have := congrArg List.length ht
    simp [ivs_len] at this; omega
  obtain ⟨A, hA, hnews⟩ : ∃ A : Addr, (if n = c + 1 then some (⟨g, 0, none⟩ : Addr) else some ⟨g, c + 1, none⟩) = some A ∧ Hid (∀ j v, (mvd u c)[j]? = some v → w.drew.cell? (A.add j) = some v) := by
    by_cases h : n = c + 1
    · refine ⟨⟨g, 0, none⟩, by simp [h], fun j v hv => ?_⟩
      have h0 : (mvd u c).length = 0 := by rw [mvd_len]; omega
      rw [List.length_eq_zero_iff.1 h0] at hv
      simp at hv
    · refine ⟨⟨g, c + 1, none⟩, by simp [h], fun j v hv => ?_⟩
      have hj : j < u.length - (c + 1) := by
        have := (List.getElem?_eq_some_iff.1 hv).1
        rwa [mvd_len] at this
      rw [Addr.add_lit]
      show w.cell? _ = _
      rw [hb.cell (by omega), take_at ht (by omega), ← hv]
      simp [mvd, Nat.add_comm, Nat.add_left_comm]
  have s1 : Hid ((mvd u c).length = (u.length - (c + 1)) * 1) := by rw [Nat.mul_one]; exact mvd_len u c
  have s2 : Hid (∀ v ∈ mvd u c, v.oneCell' = true) := by
    intro v hv
    obtain ⟨x, _, rfl⟩ := List.mem_map.1 (List.mem_of_mem_drop hv)
    rfl
  have s3 : Hid (∀ j, j < (mvd u c).length → (w.drew.cell? ⟨g, 0 + c * 1 + j, none⟩).isSome = true ∧ w.drew.frozen? ⟨g, 0 + c * 1 + j, none⟩ = false) := by
    intro j hj
    rw [mvd_len] at hj
    rw [Nat.mul_one, Nat.zero_add]
    refine ⟨?_, hb.frozen _⟩
    show (w.cell? _).isSome = true
    rw [hb.cell (by omega), List.getElem?_eq_getElem (by omega)]; rfl
  have hcn : c ≤ n := by omega
  have hp0 : (0 : Int) ≤ (c : Int) + 1 := by omega
  have hp1 : (c : Int) + 1 ≤ (u.length : Int) := by omega
  have hp2 : ((c : Int) + 1).toNat = c + 1 := by omega
  have hp3 : ((c : Int) == (c : Int) + 1) = false := by rw [beq_eq_false_iff_ne]; omega
  have hb1 : Bs 3 (w.drew.setCells g c (mvd u c)) g (putL cur c (mvd u c)) := Bs.put (mvd u c) c (show Bs 3 w.drew g cur from hb)
  have hclr : ∀ ty, (Builtin.clear_ #[22] ty #[.slice (some ⟨g, c + (u.length - (c + 1)), none⟩) (u.length - (c + (u.length - (c + 1)))) (n - (c + (u.length - (c + 1))))]).run Try.prog (w.drew.setCells g c (mvd u c)) = .ok (.tuple #[]) ((w.drew.setCells g c (mvd u c)).setCells g (c + (u.length - (c + 1))) (List.replicate (u.length - (c + (u.length - (c + 1)))) (.int .i64 0))) :=
    fun ty => Lib.run_clear_slice _ _ _ ty _ Try.underlying22 zeroI rfl rfl g _ _ _ (by omega) (fun j hj => by
      rw [hb1.cell (by rw [putL_len]; omega), List.getElem?_eq_getElem (by rw [putL_len]; omega)]; rfl) (fun j _ => hb1.frozen _)
  have E := Lib.hid (del_end hb hcl ht hc hn)
  clear hb hcl ht hb1
  go_enter Try.func28, Try.ntmps28
  go_wp2_with fail
  go_region_law (refine step_append_room rfl (.tmp 22) (.tmp 25) 22 rfl 3 i0 1 Try.underlying22 hi0 hz1 g 0 c n (by simp [Act.eval, Act.put]) A (u.length - (c + 1)) (n - (c + 1)) (mvd u c) (by simp [Act.eval, Act.put]) s1.out hnews.out s2.out (by omega) s3.out ?_)
  go_wp2
  go_ret
  exact E.out
end Go.Proofs.Ytbchdnmpohnkiaa
