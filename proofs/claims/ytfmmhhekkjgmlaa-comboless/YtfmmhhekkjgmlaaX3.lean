/- combo.firstFree, combo.Next. -/
import Derived.Test.YtfmmhhekkjgmlaaX2
import Derived.Test.YtfmmhhekkjgmlaaCi
namespace Go.Proofs.Ytfmmhhekkjgmlaa
open Go.RowKit Go.Deep

/-- Position k may grow. -/
def gro (N : Nat) (q : List Nat) (k : Nat) : Prop := q.getD k 0 + 1 < lim N q k

def FFPost (N : Nat) (q : List Nat) (w : World) (e : Ending) (w' : World) : Prop :=
  ∃ k : Nat, e = .returned (.int .i64 k) ∧ w' = w ∧ k ≤ q.length ∧ (∀ j, j < k → ¬ gro N q j) ∧ (k < q.length → gro N q k)

set_option maxRecDepth 100000 in
set_option maxHeartbeats 1000000 in
theorem firstFree_any (N : Nat) (A : Option Addr) (ca : Nat) (q : List Nat) (w : World) (hc : IP w A ca (ints q)) (hN : N ≤ 60) (hI : Inc N q) :
    Calls Try.prog 26 #[.int .i64 N, .slice A q.length ca] w (FFPost N q w) := by
  have hlen := hI.len_le
  have hcap := hc.cap
  have hle := hc.le
  rw [ints_len] at hle
  have HI := Lib.hid hI
  have HC := Lib.hid hc
  clear hI hc
  go_enter Try.func26, Try.ntmps26
  go_wp2_with fail
  go_loopw [10] (fun iv wr => ∃ k : Nat, k ≤ q.length ∧ iv = .int .i64 k ∧ (∀ j, j < k → ¬ gro N q j) ∧ wr = w) (fun iv _ => q.length - (intOf iv).toNat)
  case atStart => exact ⟨0, by omega, rfl, fun j hj => absurd hj (by omega), rfl⟩
  case round =>
    obtain ⟨k, hk, rfl, hj, rfl⟩ := hrel
    have HJ := Lib.hid hj
    clear hj
    by_cases hlt : k < q.length
    · obtain ⟨b, off, rfl, _, hcell⟩ := HC.out.il.at (by rw [ints_len]; omega)
      have hci := hcell k (by rw [ints_len]; omega)
      rw [ints_at] at hci
      have hx := HI.out.at hlt
      by_cases h1 : k + 1 < q.length
      · have hci2 := hcell (k + 1) (by rw [ints_len]; omega)
        rw [ints_at] at hci2
        have hx2 := HI.out.at h1
        have hL : lim N q k = q.getD (k + 1) 0 := if_pos h1
        clear hcell
        by_cases hg : q.getD k 0 + 1 < q.getD (k + 1) 0
        · have E : Hid (gro N q k) := by show _ < _; rw [hL]; exact hg
          clear hL
          generalize q.getD k 0 = x at *
          generalize q.getD (k + 1) 0 = y at *
          go_wp2
          go_ret
          exact ⟨k, rfl, rfl, by omega, HJ.out, fun _ => E.out⟩
        · have E : Hid (∀ j, j < k + 1 → ¬ gro N q j) := fun j hj => by
            by_cases e : j = k
            · subst e; show ¬ _ < _; rw [hL]; exact hg
            · exact HJ.out j (by omega)
          clear hL
          generalize q.getD k 0 = x at *
          generalize q.getD (k + 1) 0 = y at *
          go_wp2
          go_roundw
          case rel => exact ⟨k + 1, by omega, by go_num, E.out, trivial⟩
          case measure => simp [intOf]; omega
      · have hL : lim N q k = N := if_neg h1
        clear hcell
        by_cases hg : q.getD k 0 + 1 < N
        · have E : Hid (gro N q k) := by show _ < _; rw [hL]; exact hg
          clear hL
          generalize q.getD k 0 = x at *
          go_wp2
          go_ret
          exact ⟨k, rfl, rfl, by omega, HJ.out, fun _ => E.out⟩
        · have E : Hid (∀ j, j < k + 1 → ¬ gro N q j) := fun j hj => by
            by_cases e : j = k
            · subst e; show ¬ _ < _; rw [hL]; exact hg
            · exact HJ.out j (by omega)
          clear hL
          generalize q.getD k 0 = x at *
          go_wp2
          go_roundw
          case rel => exact ⟨k + 1, by omega, by go_num, E.out, trivial⟩
          case measure => simp [intOf]; omega
    · obtain rfl : q.length = k := by omega
      go_wp2
      go_ret
      exact ⟨q.length, rfl, rfl, by omega, HJ.out, fun h => absurd h (by omega)⟩

/-- The successor and an error. -/
def nextOf (N : Nat) (q : List Nat) : List Nat × Int := if rk q + 1 < bc N q.length then (atC N q.length (rk q + 1), 0) else ([], 3)
theorem nextOf_last {N : Nat} {q : List Nat} (h : Inc N q) (hn : ∀ j, j < q.length → ¬ gro N q j) : nextOf N q = ([], 3) := by
  unfold nextOf; rw [if_neg (by have := rk_last h hn; omega)]
theorem nextOf_bump {N : Nat} {q : List Nat} {k : Nat} (h : Inc N q) (hk : k < q.length) (hn : ∀ j, j < k → ¬ gro N q j) (hg : gro N q k) : nextOf N q = (bump q k, 0) := by
  have h1 := bump_inc h hk hg
  have h2 := rk_bump h hk hn
  have h3 := rk_lt h1
  have h4 := atC_rk N _ h1
  rw [bump_len hk, h2] at h3 h4
  unfold nextOf
  rw [if_pos h3, h4]
/-- What stands in the loop. -/
def bumpTo (q : List Nat) (k i : Nat) : List Nat := List.range i ++ (q.set k (q.getD k 0 + 1)).drop i
theorem bumpTo_zero (q : List Nat) (k : Nat) : bumpTo q k 0 = q.set k (q.getD k 0 + 1) := by simp [bumpTo]
theorem bumpTo_len {q : List Nat} {k i : Nat} (h : i ≤ q.length) : (bumpTo q k i).length = q.length := by simp [bumpTo]; omega
theorem bumpTo_end {q : List Nat} {k : Nat} (hk : k < q.length) : bumpTo q k k = bump q k := by
  unfold bumpTo bump
  rw [List.drop_eq_getElem_cons (by simpa using hk)]
  simp [List.drop_set_of_lt]
theorem bumpTo_set {q : List Nat} {k i : Nat} (h : i < q.length) : (bumpTo q k i).set i i = bumpTo q k (i + 1) := by
  unfold bumpTo
  rw [List.set_append_right _ _ (by simp), List.length_range, Nat.sub_self, List.drop_eq_getElem_cons (by simpa using h), List.set_cons_zero, List.range_succ]
  simp
theorem ints_set (q : List Nat) (k x : Nat) : (ints q).set k (x : Int) = ints (q.set k x) := by
  unfold ints; rw [List.map_set]

def nextC (n : Int) (c : List Int) : List Int × Int := if RC n c then (ints (nextOf n.toNat (nats c)).1, (nextOf n.toNat (nats c)).2) else ([], 1)
theorem nextC_yes {N : Nat} {q : List Nat} (h : N ≤ 60) (h2 : Inc N q) : nextC N (ints q) = (ints (nextOf N q).1, (nextOf N q).2) := by
  unfold nextC; rw [if_pos (rc_ints.2 ⟨h, h2⟩), nats_ints, Int.toNat_natCast]

set_option maxRecDepth 100000 in
set_option maxHeartbeats 1000000 in
theorem next_any5 (n : Int) (A : Option Addr) (ca : Nat) (c : List Int) (w : World) (hc : IP w A ca c) :
    Calls Try.prog 19 #[.int .i64 n, .slice A c.length ca] w (LPost w (nextC n c)) := by
  have C := Lib.hid (right_any5 n A ca c w hc)
  by_cases hok : RC n c
  · obtain ⟨N, q, rfl, rfl, hN, hI⟩ := rc_open hok
    rw [decide_eq_true hok] at C
    rw [nextC_yes hN hI]
    have hlen := hI.len_le
    have hcap := hc.cap
    have hle := hc.le
    have C2 := Lib.hid (firstFree_any N A ca q w hc hN hI)
    rw [ints_len] at C hle ⊢
    have HI := Lib.hid hI
    have HC := Lib.hid hc
    clear hok hI hc
    go_enter Try.func19, Try.ntmps19
    go_wp2_with fail
    refine C.out.mono ?_
    rintro e w1 ⟨rfl, rfl⟩
    clear C
    go_wp2_with fail
    refine C2.out.mono ?_
    rintro e w2 ⟨p, rfl, rfl, hp, hn, hg⟩
    clear C2
    by_cases hlt : p < q.length
    · have HX := Lib.hid (nextOf_bump HI.out hlt hn (hg hlt))
      have hx := HI.out.at hlt
      have C3 := Lib.hid (cloneO_any A ca (ints q) w2 HC.out (by rw [ints_len]; omega) (by rw [ints_len]; omega))
      rw [ints_len] at C3
      have hne : ((p : Int) == (q.length : Int)) = false := by rw [beq_eq_false_iff_ne]; omega
      clear hn hg
      go_wp2_with fail
      refine C3.out.mono ?_
      rintro e w3 ⟨v, rfl, hO, hB⟩
      obtain ⟨g, cap, rfl, hg1, hg2, hg3, hg4, hat, hfz, hO⟩ := hO.form (ints_len q) (by omega)
      have hc1 := hat p hlt
      have hf1 := hfz p
      rw [ints_at] at hc1
      have HO := Lib.hid (hO.set p ((q.getD p 0 + 1 : Nat) : Int))
      rw [ints_set, ← bumpTo_zero] at HO
      have HB := Lib.hid (hB.setCell (p := ⟨g, p, none⟩) hg1 (.int .i64 ((q.getD p 0 + 1 : Nat) : Int)))
      have ee : ((q.getD p 0 + 1 : Nat) : Int) = ((q.getD p 0 : Nat) : Int) + 1 := by omega
      rw [ee] at HO HB
      obtain ⟨x, hxx⟩ : ∃ x, q.getD p 0 = x := ⟨_, rfl⟩
      rw [hxx] at hc1 hx HO HB
      clear hat hfz hO hB C3 hxx ee
      go_wp2_with fail
      go_loopw [29] (fun iv wr => ∃ i : Nat, i ≤ p ∧ iv = .int .i64 i ∧ OI wr w2.heap.size (.slice (some ⟨g, 0, none⟩) q.length cap) (ints (bumpTo q p i)) ∧ Below w2.heap.size w2 wr) (fun iv _ => p - (intOf iv).toNat)
      case atStart => exact ⟨0, by omega, rfl, HO.out, HB.out⟩
      case round =>
        clear HO HB
        obtain ⟨i, hi, rfl, hO, hB⟩ := hrel
        by_cases hl : i < p
        · have hc2 := hO.at (i := i) (by rw [ints_len, bumpTo_len (by omega)]; omega)
          have hf2 := hO.frozen i
          have HO := Lib.hid (hO.set i (i : Int))
          rw [ints_set, bumpTo_set (by omega)] at HO
          have HB := Lib.hid (hB.setCell (p := ⟨g, i, none⟩) hg1 (.int .i64 (i : Int)))
          generalize (ints (bumpTo q p i)).getD i 0 = y at *
          clear hO hB
          go_wp2
          go_roundw
          case rel => exact ⟨i + 1, by omega, by go_num, HO.out, HB.out⟩
          case measure => simp [intOf]; omega
        · obtain rfl : p = i := by omega
          have HO := Lib.hid hO
          have HB := Lib.hid hB
          rw [bumpTo_end hlt] at HO
          clear hO hB
          go_wp2
          go_ret2
          rw [HX.out]
          exact lpost_oi HO.out HB.out
    · obtain rfl : q.length = p := by omega
      have HX := Lib.hid (nextOf_last HI.out hn)
      clear hn hg
      go_wp2
      go_ret2
      rw [HX.out]
      exact lpost_none (Below.refl _ _)
  · rw [decide_eq_false hok] at C
    unfold nextC
    rw [if_neg hok]
    have hcap := hc.cap
    clear hok hc
    go_enter Try.func19, Try.ntmps19
    go_wp2_with fail
    refine C.out.mono ?_
    rintro e w1 ⟨rfl, rfl⟩
    clear C
    go_wp2
    go_ret2
    exact lpost_none (Below.refl _ _)
end Go.Proofs.Ytfmmhhekkjgmlaa
