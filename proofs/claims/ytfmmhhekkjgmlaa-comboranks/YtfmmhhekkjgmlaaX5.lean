/- combo.Rest. -/
import Derived.Test.YtfmmhhekkjgmlaaX2
import Derived.Test.YtfmmhhekkjgmlaaOi
import Derived.Lib.JoinLaws
namespace Go.Proofs.Ytfmmhhekkjgmlaa
open Go.RowKit Go.Deep

/-- What is not in q, below n. -/
def restN (n : Nat) (q : List Nat) : List Nat := (List.range n).filter fun x => decide (x ∉ q)
theorem restN_zero (q : List Nat) : restN 0 q = [] := rfl
theorem restN_in {n : Nat} {q : List Nat} (h : n ∈ q) : restN (n + 1) q = restN n q := by
  unfold restN; rw [List.range_succ, List.filter_append]; simp [h]
theorem restN_out {n : Nat} {q : List Nat} (h : n ∉ q) : restN (n + 1) q = restN n q ++ [n] := by
  unfold restN; rw [List.range_succ, List.filter_append]; simp [h]
theorem restN_len (n : Nat) (q : List Nat) : (restN n q).length ≤ n := by
  unfold restN
  have := List.length_filter_le (fun x => decide (x ∉ q)) (List.range n)
  simpa using this
/-- So many of q lie below k: those ahead of j do, and no other. -/
def cutAt (q : List Nat) (k j : Nat) : Prop := j ≤ q.length ∧ (∀ i, i < j → q.getD i 0 < k) ∧ (∀ i, j ≤ i → i < q.length → k ≤ q.getD i 0)
theorem mem_at {q : List Nat} {x : Nat} : x ∈ q ↔ ∃ i, i < q.length ∧ q.getD i 0 = x := by
  constructor
  · intro h
    obtain ⟨k, hk, e⟩ := List.getElem_of_mem h
    exact ⟨k, hk, by rw [List.getD_eq_getElem?_getD, List.getElem?_eq_getElem hk]; exact e⟩
  · rintro ⟨k, hk, rfl⟩
    rw [List.getD_eq_getElem?_getD, List.getElem?_eq_getElem hk]; exact List.getElem_mem hk
theorem cut_hit {N : Nat} {q : List Nat} {k j : Nat} (h : Inc N q) (hc : cutAt q k j) (hj : j < q.length) (e : q.getD j 0 = k) : k ∈ q ∧ cutAt q (k + 1) (j + 1) := by
  refine ⟨mem_at.2 ⟨j, hj, e⟩, by omega, fun i hi => ?_, fun i hi hi2 => ?_⟩
  · by_cases h1 : i = j
    · subst h1; omega
    · have := hc.2.1 i (by omega); omega
  · have := h.lt (show j < i by omega) hi2; omega
theorem cut_miss {N : Nat} {q : List Nat} {k j : Nat} (h : Inc N q) (hc : cutAt q k j) (e : j < q.length → q.getD j 0 ≠ k) : k ∉ q ∧ cutAt q (k + 1) j := by
  have key : ∀ i, j ≤ i → i < q.length → k + 1 ≤ q.getD i 0 := fun i hi hi2 => by
    have h1 := hc.2.2 i hi hi2
    by_cases h2 : i = j
    · subst h2; have := e hi2; omega
    · have h3 := h.lt (show j < i by omega) hi2
      have h4 := hc.2.2 j (Nat.le_refl _) (by omega)
      omega
  refine ⟨fun hm => ?_, hc.1, fun i hi => by have := hc.2.1 i hi; omega, key⟩
  obtain ⟨i, hi, e2⟩ := mem_at.1 hm
  rcases Nat.lt_or_ge i j with h1 | h1
  · have := hc.2.1 i h1; omega
  · have := key i h1 hi; omega
theorem cut_zero (q : List Nat) : cutAt q 0 0 := ⟨by omega, fun i hi => absurd hi (by omega), fun i _ _ => by omega⟩

def restC (n : Int) (c : List Int) : List Int × Int := if RC n c then (ints (restN n.toNat (nats c)), 0) else ([], 1)
theorem restC_yes {N : Nat} {q : List Nat} (h : N ≤ 60) (h2 : Inc N q) : restC N (ints q) = (ints (restN N q), 0) := by
  unfold restC; rw [if_pos (rc_ints.2 ⟨h, h2⟩), nats_ints, Int.toNat_natCast]

theorem ints_drop (q : List Nat) (k : Nat) : (ints q).drop k = ints (q.drop k) := by simp [ints, List.map_drop]
theorem ints_snoc (q : List Nat) (x : Nat) : ints q ++ [(x : Int)] = ints (q ++ [x]) := by simp [ints]

set_option maxRecDepth 100000 in
set_option maxHeartbeats 1000000 in
theorem rest_any5 (n : Int) (A : Option Addr) (ca : Nat) (c : List Int) (w : World) (hc : IP w A ca c) :
    Calls Try.prog 10 #[.int .i64 n, .slice A c.length ca] w (LPost w (restC n c)) := by
  have C := Lib.hid (right_any5 n A ca c w hc)
  by_cases hok : RC n c
  · obtain ⟨N, q, rfl, rfl, hN, hI⟩ := rc_open hok
    rw [decide_eq_true hok] at C
    rw [restC_yes hN hI]
    have hlen := hI.len_le
    have hcap := hc.cap
    have hle := hc.le
    rw [ints_len] at C hle ⊢
    have HI := Lib.hid hI
    have HC := Lib.hid hc
    clear hok hI hc
    go_enter Try.func10, Try.ntmps10
    go_wp2_with fail
    refine C.out.mono ?_
    rintro e w1 ⟨rfl, rfl⟩
    clear C
    obtain ⟨D, hD⟩ : ∃ D : Nat, (N : Int) - (q.length : Int) = (D : Int) := ⟨N - q.length, by omega⟩
    have hD2 : D ≤ 60 := by omega
    have hmk := run_make_room (P := Try.prog) 22 3 (.int .i64 0) 8 Try.underlying22 info_int rfl .i64 .i64 D (by omega) (by omega)
    have HO : Hid (OI (w1.alloc (.cells (madeCells #[.int .i64 0] D) 3)) w1.heap.size (.slice (some ⟨w1.heap.size, 0, none⟩) 0 D) (ints (restN 0 q))) := World.ownsRow_made w1 _ D (Nat.le_refl _) (by unfold maxLen; omega) (by simp [madeCells])
    have HB : Hid (Below w1.heap.size w1 (w1.alloc (.cells (madeCells #[.int .i64 0] D) 3))) := (Below.refl _ _).alloc (Nat.le_refl _) _
    go_wp2_with fail
    go_loopw [1, 6, 18] (fun cv rv iv wr => ∃ (k j : Nat) (A' : Option Addr) (ca' : Nat), k ≤ N ∧ cutAt q k j ∧ cv = .slice A' (q.drop j).length ca' ∧ iv = .int .i64 k ∧ IP w1 A' ca' (ints (q.drop j)) ∧ OI wr w1.heap.size rv (ints (restN k q)) ∧ Below w1.heap.size w1 wr) (fun _ _ iv _ => N - (intOf iv).toNat)
    case atStart => exact ⟨0, 0, A, ca, by omega, cut_zero q, rfl, rfl, HC.out, HO.out, HB.out⟩
    case round =>
      clear HO HB hmk HC
      obtain ⟨k, j, A', ca', hk, hcut, rfl, rfl, hI', hO, hB⟩ := hrel
      have HO := Lib.hid hO
      have HB := Lib.hid hB
      have HC := Lib.hid hI'
      have hle' := hI'.le
      have hcap' := hI'.cap
      rw [ints_len] at hle'
      have hdl : (q.drop j).length = q.length - j := List.length_drop
      have HU := Lib.hid hcut
      have hjq := hcut.1
      clear hO hB hI' hcut
      have hil : (ints (q.drop j)).length = (q.drop j).length := ints_len _
      have HIL := Lib.hid hil
      clear hil
      generalize hm' : (q.drop j).length = m at *
      have hmj : m + j = q.length := by omega
      have HM := Lib.hid hm'
      clear hm' hdl
      by_cases hlt : k < N
      · by_cases h0 : 0 < m
        · obtain ⟨b, off, rfl, _, hcell⟩ := (HC.out.later HB.out).il.at (by rw [HIL.out]; exact h0)
          have hci := hcell 0 (by rw [HIL.out]; exact h0)
          rw [ints_at] at hci
          have ed : (q.drop j).getD 0 0 = q.getD j 0 := by simp [List.getD_eq_getElem?_getD, List.getElem?_drop]
          rw [ed] at hci
          rw [Nat.add_zero] at hci
          clear hcell ed
          by_cases hx : q.getD j 0 = k
          · obtain ⟨hm, hc2⟩ := cut_hit HI.out HU.out (by omega) hx
            obtain ⟨A2, hA2, hI2⟩ := tail_ip HC.out (c := 1) (by rw [HIL.out]; omega)
            rw [ints_drop, List.drop_drop] at hI2
            have HI2 := Lib.hid hI2
            have HX := Lib.hid hc2
            have HN := Lib.hid (restN_in hm)
            have hl2 : (q.drop (j + 1)).length = m - 1 := by simp; omega
            have HL2 := Lib.hid hl2
            rw [hx] at hci
            clear hm hc2 hI2 hl2 hx
            rw [Option.map_some, Addr.add_lit] at hA2
            have HA2 := Lib.hid hA2
            clear hA2
            go_wp2
            go_roundw
            case rel => exact ⟨k + 1, j + 1, A2, ca' - 1, by omega, HX.out, by rw [HA2.out, HL2.out], by go_num, HI2.out, by rw [HN.out]; exact HO.out, HB.out⟩
            case measure => simp [intOf]; omega
          · have hm := cut_miss HI.out HU.out (fun _ => hx)
            have hxl := restN_len k q
            have hxl2 : (ints (restN k q)).length < 17592186044416 := by rw [ints_len]; omega
            have HX := Lib.hid hm.2
            have HN := Lib.hid (restN_out hm.1)
            have hne : (((q.getD j 0 : Nat) : Int) == (k : Int)) = false := by rw [beq_eq_false_iff_ne]; omega
            generalize q.getD j 0 = x at *
            clear hm hxl
            go_wp2_with (at_builtin; refine wpList_push rfl _ _ rfl w1.heap.size u6 (ints (restN k q)) (k : Int) rfl HO.out rfl hxl2 HB.out.size HB.out ?_)
            intro g cap w2 ho2 hB2 _
            have HO2 := Lib.hid ho2
            rw [ints_snoc, ← HN.out] at HO2
            have HB2 := Lib.hid hB2
            clear HO HB ho2 hB2
            go_wp2
            go_roundw
            case rel => exact ⟨k + 1, j, _, ca', by omega, HX.out, by rw [HM.out], by go_num, HC.out, HO2.out, HB2.out⟩
            case measure => simp [intOf]; omega
        · have hm := cut_miss HI.out HU.out (fun h => absurd h (by omega))
          have hxl := restN_len k q
          have hxl2 : (ints (restN k q)).length < 17592186044416 := by rw [ints_len]; omega
          have HX := Lib.hid hm.2
          have HN := Lib.hid (restN_out hm.1)
          clear hm hxl
          go_wp2_with (at_builtin; refine wpList_push rfl _ _ rfl w1.heap.size u6 (ints (restN k q)) (k : Int) rfl HO.out rfl hxl2 HB.out.size HB.out ?_)
          intro g cap w2 ho2 hB2 _
          have HO2 := Lib.hid ho2
          rw [ints_snoc, ← HN.out] at HO2
          have HB2 := Lib.hid hB2
          clear HO HB ho2 hB2
          go_wp2
          go_roundw
          case rel => exact ⟨k + 1, j, _, ca', by omega, HX.out, by rw [HM.out], by go_num, HC.out, HO2.out, HB2.out⟩
          case measure => simp [intOf]; omega
      · obtain rfl : N = k := by omega
        go_wp2
        go_ret2
        exact lpost_oi HO.out HB.out
  · rw [decide_eq_false hok] at C
    unfold restC
    rw [if_neg hok]
    have hcap := hc.cap
    clear hok hc
    go_enter Try.func10, Try.ntmps10
    go_wp2_with fail
    refine C.out.mono ?_
    rintro e w1 ⟨rfl, rfl⟩
    clear C
    go_wp2
    go_ret2
    exact lpost_none (Below.refl _ _)
end Go.Proofs.Ytfmmhhekkjgmlaa
