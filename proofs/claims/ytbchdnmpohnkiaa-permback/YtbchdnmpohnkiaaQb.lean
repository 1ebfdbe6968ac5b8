/- lotdrawerkeep.PermBack: the walk. -/
import Derived.Test.YtbchdnmpohnkiaaP9
import Derived.Test.YtbchdnmpohnkiaaPf
namespace Go.Proofs.Ytbchdnmpohnkiaa
open Go.RowKit Go.Deep

theorem atR_rank {p : List Int} (h : Ok p) : atR (p.length : Int) (rank p : Int) = (p, 0) := by
  unfold atR
  have h1 := h.1
  have h2 := rank_lt p
  rw [if_neg (by omega), Int.toNat_natCast, Int.toNat_natCast, Nat.div_eq_of_lt h2]
  simp [pick_rank h]
theorem atR_cases (n r : Int) : (∃ e : Int, e ≠ 0 ∧ atR n r = ([], e)) ∨ (∃ c, atR n r = (c, 0) ∧ Ok c ∧ rankR c = (r, 0)) := by
  unfold atR
  by_cases h1 : n < 0 ∨ 20 < n ∨ r < 0
  · exact .inl ⟨2, by omega, by rw [if_pos h1]⟩
  · rw [if_neg h1]
    by_cases h2 : r.toNat / fact n.toNat ≠ 0
    · exact .inl ⟨3, by omega, by rw [if_pos h2]⟩
    · rw [if_neg h2]
      have hok : Ok (pick (idn n.toNat) (fd n.toNat r.toNat).1) := pick_ok (by omega) (fd_dig _ _) (fd_len _ _)
      have hlt : r.toNat < fact n.toNat := by
        have h3 : r.toNat / fact n.toNat = 0 := by omega
        have hp := fact_pos n.toNat
        rcases (Nat.div_eq_zero_iff).1 h3 with h | h
        · omega
        · exact h
      refine .inr ⟨_, rfl, hok, ?_⟩
      unfold rankR
      rw [if_pos hok, rank_pick hlt]
      congr 1
      omega

set_option maxRecDepth 100000 in
set_option maxHeartbeats 2000000 in
theorem permBack_walk (A : Option Addr) (ca : Nat) (p : List Int) (n r : Int) (w : World) (hp : IP w A ca p) (hr : r ≤ 9223372036854775807) :
    Calls Try.prog 6 #[.slice A p.length ca, .int .i64 n, .int .i64 r] w fun e w' => e = .returned (.bool true) ∧ Below w.heap.size w w' := by
  have CA := Lib.hid (alive4_any w)
  have hle := hp.le
  have hcap := hp.cap
  have HP := Lib.hid hp
  clear hp
  go_enter Try.func6, Try.ntmps6
  go_wp2_with fail
  refine CA.out.mono ?_
  rintro e w1 ⟨rfl, hB1⟩
  have HB := Lib.hid hB1
  have C1 := Lib.hid (permRank_any A ca p w1 (HP.out.later hB1))
  clear CA hB1
  by_cases hok : Ok p
  case' pos =>
    have EA := Lib.hid (atR_rank hok)
    have hrk : rank p ≤ 2432902008176640000 := Nat.le_of_lt (Nat.lt_of_lt_of_le (rank_lt p) (fact_small hok.1))
    unfold rankR at C1
    rw [if_pos hok] at C1
    generalize rank p = rk at *
    unfold ptup at C1
    clear hok
    go_wp2_with fail
    refine C1.out.mono ?_
    rintro e w2 ⟨rfl, hB2⟩
    have HB := Lib.hid (HB.out.trans (hB2.mono HB.out.size))
    have C2 := Lib.hid (permAt_any (p.length : Int) (rk : Int) w2 (by omega))
    rw [EA.out] at C2
    clear C1 hB2 EA
    go_wp2_with fail
    refine C2.out.mono ?_
    rintro e w3 ⟨R, cr, rfl, hI, hB3⟩
    have HB := Lib.hid (HB.out.trans (hB3.mono HB.out.size))
    have C3 := Lib.hid (iequal_any R A cr ca p p w3 hI.il (HP.out.later HB.out).il (by omega) (by omega))
    simp only [decide_true] at C3
    clear C2 hB3 hI
    unfold ltup
    simp only []
    go_wp2_with fail
    refine C3.out.mono ?_
    rintro e w5 ⟨rfl, hB4⟩
    have HB := Lib.hid (HB.out.trans (hB4.mono HB.out.size))
    have C4 := Lib.hid (permAt_any n r w5 hr)
    clear C3 hB4
  case' neg =>
    unfold rankR at C1
    rw [if_neg hok] at C1
    unfold ptup at C1
    clear hok
    go_wp2_with fail
    refine C1.out.mono ?_
    rintro e w2 ⟨rfl, hB2⟩
    have HB := Lib.hid (HB.out.trans (hB2.mono HB.out.size))
    have C2 := Lib.hid (permAt_any (p.length : Int) 0 w2 (by omega))
    clear C1 hB2
    go_wp2_with fail
    refine C2.out.mono ?_
    rintro e w5 ⟨R, cr, rfl, hI, hB3⟩
    have HB := Lib.hid (HB.out.trans (hB3.mono HB.out.size))
    have C4 := Lib.hid (permAt_any n r w5 hr)
    clear C2 hB3 hI
    unfold ltup
    obtain ⟨⟨m1, m2⟩, hm⟩ : ∃ m, atR (p.length : Int) 0 = m := ⟨_, rfl⟩
    rw [hm]
    clear hm
    simp only []
  all_goals
    rcases atR_cases n r with ⟨e0, he0, h⟩ | ⟨c, h, hc, hrc⟩
    · rw [h] at C4
      have t1 : (e0 != 0) = true := by rw [bne_iff_ne]; exact he0
      have t2 : (e0 == 0) = false := by rw [beq_eq_false_iff_ne]; exact he0
      clear h he0
      go_wp2_with fail
      refine C4.out.mono ?_
      rintro e w6 ⟨R6, c6, rfl, hI6, hB6⟩
      have HB := Lib.hid (HB.out.trans (hB6.mono HB.out.size))
      have C5 := Lib.hid (permRank_any R6 c6 [] w6 hI6)
      unfold ptup at C5
      clear C4 hB6 hI6
      unfold ltup
      go_wp2_with fail
      refine C5.out.mono ?_
      rintro e w7 ⟨rfl, hB7⟩
      have HB := Lib.hid (HB.out.trans (hB7.mono HB.out.size))
      clear C5 hB7
      go_wp2
      go_ret
      exact ⟨rfl, HB.out⟩
    · rw [h] at C4
      have hcl := hc.1
      have HC := Lib.hid hc
      have HR := Lib.hid hrc
      clear h hc hrc
      go_wp2_with fail
      refine C4.out.mono ?_
      rintro e w6 ⟨R6, c6, rfl, hI6, hB6⟩
      have HB := Lib.hid (HB.out.trans (hB6.mono HB.out.size))
      have hI6' : IP w6 R6 c6 c := hI6
      have C5 := Lib.hid (permRank_any R6 c6 c w6 hI6')
      have I6 := Lib.hid hI6'
      rw [HR.out] at C5
      unfold ptup at C5
      clear C4 hB6 hI6 hI6'
      unfold ltup
      simp only []
      go_wp2_with fail
      refine C5.out.mono ?_
      rintro e w7 ⟨rfl, hB7⟩
      have HB := Lib.hid (HB.out.trans (hB7.mono HB.out.size))
      have C6 := Lib.hid (permRight_any R6 c6 c w7 (I6.out.later hB7))
      rw [decide_eq_true HC.out] at C6
      clear C5 hB7
      go_wp2_with fail
      refine C6.out.mono ?_
      rintro e w8 ⟨rfl, hB8⟩
      have HB := Lib.hid (HB.out.trans (hB8.mono HB.out.size))
      clear C6 hB8
      go_wp2
      go_ret
      exact ⟨rfl, HB.out⟩
end Go.Proofs.Ytbchdnmpohnkiaa
