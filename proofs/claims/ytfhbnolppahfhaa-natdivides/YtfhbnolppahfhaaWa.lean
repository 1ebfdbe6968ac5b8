/- cmp.Compare, nat.compare and nat.Cmp. -/
import Derived.Test.YtfhbnolppahfhaaW4
namespace Go.Proofs.Ytfhbnolppahfhaa
open Go.RowKit

/-- Less, equal or greater. -/
def ord (x y : Nat) : Int := if x < y then -1 else if y < x then 1 else 0
theorem ord_lt {x y : Nat} (h : x < y) : ord x y = -1 := if_pos h
theorem ord_gt {x y : Nat} (h : y < x) : ord x y = 1 := by unfold ord; rw [if_neg (by omega), if_pos h]
theorem ord_eq {x y : Nat} (h : x = y) : ord x y = 0 := by unfold ord; rw [if_neg (by omega), if_neg (by omega)]

theorem val_split {xs : List Nat} {m : Nat} (h : m ≤ xs.length) : val xs = val (xs.take m) + Bw ^ m * val (xs.drop m) := by
  have e := val_append (xs.take m) (xs.drop m)
  rw [List.take_append_drop] at e
  rw [e, List.length_take, Nat.min_eq_left h]
theorem drop_cons_val {xs : List Nat} {m : Nat} (h : m < xs.length) : val (xs.drop m) = wd xs m + Bw * val (xs.drop (m + 1)) := by
  rw [List.drop_eq_getElem_cons h, val]
  have : xs[m] = wd xs m := by have := wd_in h; rw [List.getElem?_eq_getElem h] at this; simpa using this
  rw [this]
theorem wd_dropp (zs : List Nat) (off k : Nat) : wd (zs.drop off) k = wd zs (off + k) := by
  unfold wd; rw [List.getD_eq_getElem?_getD, List.getD_eq_getElem?_getD, List.getElem?_drop]
theorem digit_lt {xs ys : List Nat} {m : Nat} (hs : Sm xs) (hl : xs.length = ys.length) (hm : m < xs.length) (he : ∀ j, m + 1 ≤ j → wd xs j = wd ys j) (h : wd xs m < wd ys m) : val xs < val ys := by
  have hd : xs.drop (m + 1) = ys.drop (m + 1) := list_of_wd (by simp [hl]) (fun j _ => by rw [wd_dropp, wd_dropp]; exact he _ (by omega))
  rw [val_split (xs := xs) (m := m) (by omega), val_split (xs := ys) (m := m) (by omega), drop_cons_val hm, drop_cons_val (xs := ys) (by omega), hd]
  have h1 : val (xs.take m) < Bw ^ m := by
    have := val_lt (hs.take m)
    rwa [List.length_take, Nat.min_eq_left (by omega)] at this
  have h2 : Bw ^ m * (wd xs m + Bw * val (ys.drop (m + 1)) + 1) ≤ Bw ^ m * (wd ys m + Bw * val (ys.drop (m + 1))) := Nat.mul_le_mul_left _ (by omega)
  rw [Nat.mul_add _ _ 1] at h2
  omega
theorem len_lt {xs ys : List Nat} (hs : Sm xs) (hc : Cn ys) (h : xs.length < ys.length) : val xs < val ys := by
  have h1 : val xs < Bw ^ xs.length := val_lt hs
  have hne : wd ys (ys.length - 1) ≠ 0 := by
    rcases hc with h0 | h0
    · rw [h0] at h; simp at h
    · exact h0
  have h2 : Bw ^ (ys.length - 1) ≤ val ys := by
    rw [val_split (xs := ys) (m := ys.length - 1) (by omega), drop_cons_val (by omega)]
    have : Bw ^ (ys.length - 1) * 1 ≤ Bw ^ (ys.length - 1) * (wd ys (ys.length - 1) + Bw * val (ys.drop (ys.length - 1 + 1))) := Nat.mul_le_mul_left _ (by omega)
    omega
  have h3 : Bw ^ xs.length ≤ Bw ^ (ys.length - 1) := Nat.pow_le_pow_right Bw_pos (by omega)
  omega

set_option maxHeartbeats 400000 in
theorem cmpInt_any (x y : Nat) (w : World) : Calls Try.prog 49 #[.int .i64 (x : Int), .int .i64 (y : Int)] w fun e w' => e = .returned (.int .i64 (ord x y)) ∧ w' = w := by
  rcases Nat.lt_trichotomy x y with h | h | h
  · rw [ord_lt h]
    go_enter Try.func49, Try.ntmps49
    go_wp2
    go_ret
    exact ⟨rfl, rfl⟩
  · rw [ord_eq h]
    subst h
    go_enter Try.func49, Try.ntmps49
    go_wp2
    go_ret
    exact ⟨rfl, rfl⟩
  · rw [ord_gt h]
    go_enter Try.func49, Try.ntmps49
    go_wp2
    go_ret
    exact ⟨rfl, rfl⟩
set_option maxHeartbeats 400000 in
theorem cmpWord_any (x y : Nat) (w : World) : Calls Try.prog 50 #[.int .u64 (x : Int), .int .u64 (y : Int)] w fun e w' => e = .returned (.int .i64 (ord x y)) ∧ w' = w := by
  rcases Nat.lt_trichotomy x y with h | h | h
  · rw [ord_lt h]
    go_enter Try.func50, Try.ntmps50
    go_wp2
    go_ret
    exact ⟨rfl, rfl⟩
  · rw [ord_eq h]
    subst h
    go_enter Try.func50, Try.ntmps50
    go_wp2
    go_ret
    exact ⟨rfl, rfl⟩
  · rw [ord_gt h]
    go_enter Try.func50, Try.ntmps50
    go_wp2
    go_ret
    exact ⟨rfl, rfl⟩

theorem ord_digit {xs ys : List Nat} {m : Nat} (hs : Sm xs) (ht : Sm ys) (hl : xs.length = ys.length) (hm : m < xs.length) (he : ∀ j, m + 1 ≤ j → wd xs j = wd ys j) (h : wd xs m ≠ wd ys m) : ord (wd xs m) (wd ys m) = ord (val xs) (val ys) := by
  rcases Nat.lt_or_gt_of_ne h with k | k
  · rw [ord_lt k, ord_lt (digit_lt hs hl hm he k)]
  · rw [ord_gt k, ord_gt (digit_lt ht hl.symm (by omega) (fun j hj => (he j hj).symm) k)]
theorem ord_len {xs ys : List Nat} (hs : Sm xs) (ht : Sm ys) (hc : Cn xs) (hd : Cn ys) (h : xs.length ≠ ys.length) : ord xs.length ys.length = ord (val xs) (val ys) := by
  rcases Nat.lt_or_gt_of_ne h with k | k
  · rw [ord_lt k, ord_lt (len_lt hs hd k)]
  · rw [ord_gt k, ord_gt (len_lt ht hc k)]

set_option maxHeartbeats 1000000 in
theorem compare_any (A B : Option Addr) (ca cb : Nat) (xs ys : List Nat) (w : World) (ha : Wd w A xs) (hb : Wd w B ys) (hra : rt xs = true) (hrb : rt ys = true) :
    Calls Try.prog 30 #[.slice A xs.length ca, .slice B ys.length cb] w fun e w' => e = .returned (.int .i64 (ord (val xs) (val ys))) ∧ Below w.heap.size w w' := by
  have hla : xs.length ≤ 64 := ((rt_iff _).1 hra).1
  have hlb : ys.length ≤ 64 := ((rt_iff _).1 hrb).1
  have KX := Lib.hid ((rt_iff _).1 hra).2
  have KY := Lib.hid ((rt_iff _).1 hrb).2
  have HA := Lib.hid ha
  have HB := Lib.hid hb
  clear hra hrb ha hb
  by_cases hl : xs.length = ys.length
  · have h1 := neq_no hl
    have HL := Lib.hid hl
    clear hl
    go_enter Try.func30, Try.ntmps30
    go_wp2
    go_loopw [5] (fun i wr => ∃ k : Nat, k ≤ xs.length ∧ i = .int .i64 ((k : Int) - 1) ∧ (∀ j, k ≤ j → wd xs j = wd ys j) ∧ Below w.heap.size w wr) (fun i _ => (intOf i + 1).toNat)
    case atStart => exact ⟨xs.length, Nat.le_refl _, rfl, fun j hj => by rw [wd_out hj, wd_out (by rw [← HL.out]; exact hj)], Below.refl _ _⟩
    case round =>
      obtain ⟨k, hk, rfl, hE, hW⟩ := hrel
      have HE := Lib.hid hE
      have HW := Lib.hid hW
      clear hE hW h1
      cases k with
      | zero =>
        have E0 : Hid (0 = ord (val xs) (val ys)) := by
          have : xs = ys := list_of_wd HL.out (fun j _ => HE.out j (by omega))
          show (0 : Int) = _
          rw [this, ord_eq rfl]
        rw [show ((0 : Nat) : Int) - 1 = -1 from rfl]
        go_wp2
        go_ret
        exact ⟨retI E0.out, HW.out⟩
      | succ m =>
        rw [show ((m + 1 : Nat) : Int) - 1 = (m : Int) by omega]
        have hlt2 : m < ys.length := by have := HL.out; omega
        have hlt1 : m < xs.length := by omega
        obtain ⟨b1, o1, rfl, _, hc1⟩ := (HA.out.below HW.out).2 (by omega)
        obtain ⟨b2, o2, rfl, _, hc2⟩ := (HB.out.below HW.out).2 (by omega)
        have e1 := hc1 m hlt1
        have e2 := hc2 m hlt2
        clear hc1 hc2
        have i1 : (m : Int) < (xs.length : Int) := by omega
        have i2 : (m : Int) < (ys.length : Int) := by omega
        by_cases he : wd xs m = wd ys m
        · have hne := neq_no he
          have H2 := Lib.hid he
          clear he
          go_wp2
          go_quiet (fail)
          go_wp2
          go_roundw
          case rel => exact ⟨m, by omega, rfl, fun j hj => by
                        by_cases e : j = m
                        · rw [e]; exact H2.out
                        · exact HE.out j (by omega), below_drewN HW.out _⟩
          case measure => simp [intOf]
        · have hne := neq_yes he
          have E0 : Hid (ord (wd xs m) (wd ys m) = ord (val xs) (val ys)) := ord_digit HA.out.1 HB.out.1 HL.out hlt1 HE.out he
          clear he
          go_wp2
          go_quiet (fail)
          go_wp2
          obtain ⟨wx, hwx⟩ : ∃ wx, wx = wr.drewN nq := ⟨_, rfl⟩
          rw [← hwx]
          have e3 : wx.cell? ⟨b1, o1 + m, none⟩ = some (.int .u64 (wd xs m : Int)) := by rw [hwx]; exact e1
          have e4 : wx.cell? ⟨b2, o2 + m, none⟩ = some (.int .u64 (wd ys m : Int)) := by rw [hwx]; exact e2
          have HX : Hid (Below w.heap.size w wx) := by rw [hwx]; exact below_drewN HW.out _
          clear hwx e1 e2 hne
          go_quiet ((go_at_call 50; exact Calls.quiet_of_same (cmpWord_any _ _ _)))
          go_wp2
          go_ret
          exact ⟨retI E0.out, below_drewN HX.out _⟩
  · have h1 := neq_yes hl
    have E0 : Hid (ord xs.length ys.length = ord (val xs) (val ys)) := ord_len HA.out.1 HB.out.1 KX.out KY.out hl
    clear hl
    go_enter Try.func30, Try.ntmps30
    go_wp2_with fail
    refine (cmpInt_any _ _ _).mono ?_
    rintro e w' ⟨rfl, rfl⟩
    go_wp2
    go_ret
    exact ⟨retI E0.out, Below.refl _ _⟩

set_option maxHeartbeats 400000 in
theorem cmp_any (A B : Option Addr) (ca cb : Nat) (xs ys : List Nat) (w : World) (ha : Wd w A xs) (hb : Wd w B ys) (hra : rt xs = true) (hrb : rt ys = true) :
    Calls Try.prog 9 #[.slice A xs.length ca, .slice B ys.length cb] w fun e w' => e = .returned (.tuple #[.int .i64 (ord (val xs) (val ys)), .int .i64 0]) ∧ Below w.heap.size w w' := by
  have hla : xs.length ≤ 64 := ((rt_iff _).1 hra).1
  have hlb : ys.length ≤ 64 := ((rt_iff _).1 hrb).1
  have CA := Lib.hid (right_any A ca xs w ha (by omega))
  have CB := Lib.hid (right_any B cb ys w hb (by omega))
  have CC := Lib.hid (compare_any A B ca cb xs ys w ha hb hra hrb)
  rw [hra] at CA
  rw [hrb] at CB
  clear ha hb hra hrb
  go_enter Try.func9, Try.ntmps9
  go_wp2_with fail
  refine CA.out.mono ?_
  rintro e w' ⟨rfl, rfl⟩
  go_wp2_with fail
  refine CB.out.mono ?_
  rintro e w' ⟨rfl, rfl⟩
  go_wp2_with fail
  refine CC.out.mono ?_
  rintro e w' ⟨rfl, hB⟩
  have HB := Lib.hid hB
  clear hB
  go_wp2
  go_ret2
  exact ⟨rfl, HB.out⟩
set_option maxHeartbeats 400000 in
theorem cmp_bad (A B : Option Addr) (ca cb : Nat) (xs ys : List Nat) (w : World) (ha : Wd w A xs) (hb : Wd w B ys) (hla : xs.length ≤ 9223372036854775807) (hlb : ys.length ≤ 9223372036854775807) (h : (rt xs && rt ys) = false) :
    Calls Try.prog 9 #[.slice A xs.length ca, .slice B ys.length cb] w fun e w' => e = .returned (.tuple #[.int .i64 0, .int .i64 1]) ∧ w = w' := by
  have CA := Lib.hid (right_any A ca xs w ha hla)
  have CB := Lib.hid (right_any B cb ys w hb hlb)
  clear ha hb
  by_cases h1 : rt xs = true
  · have h2 : rt ys = false := by simpa [h1] using h
    rw [h1] at CA
    rw [h2] at CB
    clear h h1 h2
    go_enter Try.func9, Try.ntmps9
    go_wp2_with fail
    refine CA.out.mono ?_
    rintro e w' ⟨rfl, rfl⟩
    go_wp2_with fail
    refine CB.out.mono ?_
    rintro e w' ⟨rfl, rfl⟩
    go_wp2
    go_ret2
    exact ⟨rfl, rfl⟩
  · have h2 : rt xs = false := by simpa using h1
    rw [h2] at CA
    clear h h1 h2
    go_enter Try.func9, Try.ntmps9
    go_wp2_with fail
    refine CA.out.mono ?_
    rintro e w' ⟨rfl, rfl⟩
    go_wp2
    go_ret2
    exact ⟨rfl, rfl⟩
end Go.Proofs.Ytfhbnolppahfhaa
