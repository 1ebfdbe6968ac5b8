/- The closure that sums up, slices.Clone of integers. -/
import Derived.Test.YtbchdnmpohnkiaaP1
import Derived.Test.YtbchdnmpohnkiaaPp
import Derived.Laws.AppendOwn
import Derived.Laws.IdiomCopy
import Derived.Lib.SliceRun
namespace Go.Proofs.Ytbchdnmpohnkiaa
open Go.RowKit Go.Deep

theorem sum_take {l : List Nat} {k : Nat} (h : k < l.length) : (l.take (k + 1)).sum = (l.take k).sum + l.getD k 0 := by
  rw [List.take_succ_eq_append_getElem h, List.sum_append]
  simp [List.getD_eq_getElem?_getD, h]
theorem sum_take_le (l : List Nat) : ∀ k, (l.take k).sum ≤ l.sum := by
  intro k
  have : (l.take k ++ l.drop k).sum = l.sum := by rw [List.take_append_drop]
  rw [List.sum_append] at this
  omega

set_option maxHeartbeats 1000000 in
theorem sumUp_any (A : Option Addr) (ca : Nat) (l : List Nat) (w : World) (hl : IP w A ca (ints l)) (hs : l.sum ≤ 1000000000) :
    Calls Try.prog 23 #[.slice A (ints l).length ca] w fun e w' => e = .returned (.int .i64 (l.sum : Nat)) ∧ w' = w := by
  have hle := hl.le
  have hcap := hl.cap
  have hn : (ints l).length = l.length := ints_len l
  have HL := Lib.hid hl
  clear hl
  go_enter Try.func23, Try.ntmps23
  go_wp2_with fail
  go_loopw [3, 8] (fun sv iv wr => ∃ k : Nat, k ≤ l.length ∧ sv = .int .i64 ((l.take k).sum : Nat) ∧ iv = .int .i64 k ∧ wr = w) (fun _ iv _ => l.length - (intOf iv).toNat)
  case atStart => exact ⟨0, by omega, rfl, rfl, rfl⟩
  case round =>
    obtain ⟨k, hk, rfl, rfl, rfl⟩ := hrel
    by_cases hlt : k < l.length
    · obtain ⟨b, off, rfl, _, hc⟩ := HL.out.il.at (by omega)
      have hci := hc k (by omega)
      rw [ints_at] at hci
      have E := Lib.hid (sum_take hlt)
      have h1 := sum_take_le l (k + 1)
      have h2 := sum_take hlt
      generalize l.getD k 0 = x at *
      generalize (l.take k).sum = a at *
      have i1 : (k : Int) < ((ints l).length : Int) := by omega
      have hb : a + x ≤ 1000000000 := by omega
      clear hc h1 h2
      go_wp2
      go_roundw
      case rel => exact ⟨k + 1, by omega, by rw [E.out]; go_num, by go_num, trivial⟩
      case measure => simp [intOf]; omega
    · obtain rfl : l.length = k := by omega
      rw [List.take_length]
      go_wp2
      go_ret
      exact ⟨rfl, rfl⟩

def ClPost (w : World) (l : List Int) (e : Ending) (w' : World) : Prop :=
  ∃ (g cap : Nat) (ys : List Value), e = .returned (.slice (some ⟨g, 0, none⟩) l.length cap) ∧ w.heap.size ≤ g ∧ Bs 3 w' g ys ∧ ys.length = cap ∧ cap ≤ 9223372036854775807 ∧ ys.take l.length = ivs l ∧ Below w.heap.size w w'

set_option maxRecDepth 100000 in
set_option maxHeartbeats 2000000 in
theorem cloneI_any (A : Option Addr) (ca : Nat) (l : List Int) (w : World) (hl : IP w A ca l) (h0 : 0 < l.length) (hb : l.length ≤ 1000) :
    Calls Try.prog 24 #[.slice A l.length ca] w (ClPost w l) := by
  have q22 : ∀ (w : World) (a : Option Addr) (n c n' c' : Nat), (binOp .eql 22 (.slice a n c) (.slice none n' c')).run Try.prog w = .ok (.bool a.isNone) w := fun w a n c n' c' => Lib.run_eql_slice_nil w _ _ a n c n' c' Try.underlying22
  obtain ⟨b, off, rfl, _, hc⟩ := hl.il.at h0
  obtain ⟨i0, hi0, hz0, hz1, hz2⟩ := info_parts info_int
  have H := Lib.hid hc
  clear hl hc
  go_enter Try.func24, Try.ntmps24
  go_wp2_with (at_builtin; refine wpList_append_own _ rfl _ _ 22 rfl w.heap.size 3 i0 (.int .i64 0) 1 8 Try.underlying22 hi0 hz0 hz1 hz2 rfl (by decide) _ _ _ rfl (World.ownsRow_made w #[] 0 (Nat.le_refl _) (Nat.zero_le _) rfl) ⟨b, off, none⟩ l.length ca (ivs l) rfl ?qc1 ?qc2 ?qc3 ?qc4 ?qc5 ?qc6 ?_)
  case qc1 => simp [ivs]
  case qc2 =>
    intro j u hj
    have hj2 : j < l.length := by have := (List.getElem?_eq_some_iff.1 hj).1; rwa [ivs_len] at this
    rw [Addr.add_lit]
    refine Lib.cell?_alloc_some _ ?_
    rw [H.out j hj2, ← hj, ivs_at hj2]
  case qc3 => intro u hu; obtain ⟨x, _, rfl⟩ := List.mem_map.1 hu; rfl
  case qc4 => unfold maxLen; omega
  case qc5 => omega
  case qc6 => simp
  intro v' w1 hown hgrow hnil
  go_wp2
  go_ret
  have hB : Below w.heap.size w w1 := ((Below.refl _ w).alloc (Nat.le_refl _) _).grown hgrow (by simp) (by intro k hk; simp [Value.ownBlock] at hk; omega)
  rcases hown.2 with ⟨rfl, h0'⟩ | ⟨g, cap, cur, rfl, hg, hgb, hc, hcm, hcs, htk⟩
  · exact absurd rfl hnil
  · refine ⟨g, cap, cur.toList, by simp, hg, by simpa [Bs] using hgb, by simpa using hcs, by unfold maxLen at hcm; omega, ?_, hB⟩
    simpa using htk
end Go.Proofs.Ytbchdnmpohnkiaa
