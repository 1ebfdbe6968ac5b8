/- lotdrawerref.JTake. -/
import Derived.Test.YthfnnceehhhfkaaY4
import Derived.Test.YthfnnceehhhfkaaOl
namespace Go.Proofs.Ythfnnceehhhfkaa
open Go.RowKit Go.Deep

theorem sumP_two2 (W : List Int) (m : Int) : (∃ e : Int, sumP W m = (0, e) ∧ e ≠ 0) ∨ ∃ n : Nat, m = n ∧ sumP W m = (sumW W, 0) ∧ WP W m ∧ 0 < sumW W := by
  rcases sumP_cases W m with ⟨h, _⟩ | ⟨h, _⟩ | ⟨h, h2, h3⟩
  · exact .inl ⟨2, h, by decide⟩
  · exact .inl ⟨3, h, by decide⟩
  · exact .inr ⟨m.toNat, by have := h2.2.2.1; omega, h, h2, h3⟩
theorem preM_succ2 {W : List Int} {k : Nat} (h : k < W.length) (m : Int) : pre W (k + 1) * m = pre W k * m + W.getD k 0 * m := by
  rw [pre_succ h, Int.add_mul]
theorem mul_bound2 {p m B : Int} (h0 : 0 ≤ p) (h1 : p ≤ B) (m0 : 0 ≤ m) (m1 : m ≤ 400) (hB : 0 ≤ B) : 0 ≤ p * m ∧ p * m ≤ B * 400 :=
  ⟨Int.mul_nonneg h0 m0, Int.le_trans (Int.mul_le_mul_of_nonneg_right h1 m0) (Int.mul_le_mul_of_nonneg_left m1 hB)⟩

set_option maxRecDepth 100000 in
set_option maxHeartbeats 2000000 in
theorem jtake_any (A : Option Addr) (ca : Nat) (W : List Int) (m s : Int) (w : World) (hW : IP w A ca W) :
    Calls Try.prog 11 #[.slice A W.length ca, .int .i64 m, .int .i64 s] w (LPost w (takeP W m s)) := by
  have hle := hW.le
  have hcap := hW.cap
  have C := Lib.hid (jsum_any A ca W m w hW)
  unfold ptup at C
  rcases sumP_two2 W m with ⟨er, h, he⟩ | ⟨n, rfl, h, hP, h0⟩
  · rw [takeP_err h he]
    rw [h] at C
    have t1 : (er != 0) = true := ineq_yes he
    clear hW h he
    go_enter Try.func11, Try.ntmps11
    go_wp2_with fail
    refine C.out.mono ?_
    rintro e w1 ⟨rfl, rfl⟩
    go_wp2
    go_ret2
    exact lpost_none (Below.refl _ _)
  · rw [h] at C
    have hsb := hP.sum
    by_cases hs : 0 ≤ s ∧ s < sumW W
    · rw [takeP_in h hs.1 hs.2]
      have HW := Lib.hid hW
      have HP := Lib.hid hP
      have h4 := hP.1
      have hn := hP.2.2
      have t0 : decide (s < 0) = false := by rw [decide_eq_false_iff_not]; omega
      have t2 : decide (sumW W ≤ s) = false := by rw [decide_eq_false_iff_not]; omega
      obtain ⟨hs0, hs1⟩ := hs
      obtain ⟨S, hS⟩ : ∃ S, sumW W = S := ⟨_, rfl⟩
      have HS := Lib.hid hS
      rw [hS] at C hsb t2 h0 hs1
      clear hW h hP hS
      go_enter Try.func11, Try.ntmps11
      go_wp2_with fail
      refine C.out.mono ?_
      rintro e w1 ⟨rfl, rfl⟩
      clear C
      go_wp2_with fail
      clear t0 t2
      go_loopw [10, 11] (fun ov iv wr => ∃ t : Nat, t ≤ n ∧ iv = .int .i64 t ∧ OI wr w.heap.size ov ((tkL W n s).take t) ∧ Below w.heap.size w wr) (fun _ iv _ => n - (intOf iv).toNat)
      case atStart => exact ⟨0, by omega, rfl, OI.nil _ _, Below.refl _ _⟩
      case round =>
        obtain ⟨t, ht, rfl, hO, hB⟩ := hrel
        have HO := Lib.hid hO
        have HB := Lib.hid hB
        clear hO hB
        by_cases htn : t < n
        · have HT := Lib.hid (tkL_take (W := W) (s := s) htn)
          have hz0 := stp_nonneg hs0 hsb.1 t
          have hz1 := stp_lt hs1 hsb.1 htn
          obtain ⟨y, hy⟩ : ∃ y, (t : Int) * S = y := ⟨_, rfl⟩
          have hy0 : 0 ≤ y := by rw [← hy]; exact Int.mul_nonneg (by omega) hsb.1
          have hy1 : y ≤ 400 * 419430400 := by rw [← hy]; exact Int.mul_le_mul (by omega) hsb.2 hsb.1 (by omega)
          have hst : stp s S t = s + y := by rw [← hy]; rfl
          rw [HS.out, hst] at HT
          rw [hst] at hz0 hz1
          obtain ⟨M, hM⟩ : ∃ M, S * (n : Int) = M := ⟨_, rfl⟩
          have HM := Lib.hid hM
          rw [hM] at hz1
          have htl : ((tkL W n s).take t).length = t := by rw [List.length_take, tkL_len]; omega
          have htb : ((tkL W n s).take t).length < 17592186044416 := by omega
          have HL := Lib.hid htl
          have hti : (t : Int) < (n : Int) := by omega
          obtain ⟨wa, hwa⟩ : ∃ wa, wa = wr := ⟨_, rfl⟩
          subst hwa
          have HW2 := Lib.hid (HW.out.later HB.out)
          have hw0 : 0 < W.length := by
            by_cases e : W.length = 0
            · have e2 : W = [] := List.eq_nil_of_length_eq_zero e
              have := HS.out
              rw [e2] at this
              have h3 : S = 0 := this.symm
              omega
            · omega
          clear htl hst hM
          go_wp2_with fail
          go_loop [12, 13] (fun zv kv => ∃ k : Nat, k < W.length ∧ kv = .int .i64 k ∧ zv = .int .i64 (s + y - pre W k * n) ∧ pre W k * n ≤ s + y) (fun _ kv => W.length - (intOf kv).toNat)
          case atStart => exact ⟨0, hw0, rfl, by rw [pre_zero]; simp, by rw [pre_zero]; omega⟩
          case round =>
            obtain ⟨k, hk, rfl, rfl, hpz⟩ := hrel
            obtain ⟨b, off, rfl, _, hcell⟩ := HW2.out.il.at (by omega)
            have hci := hcell k hk
            have hx := HP.out.at k
            have hp := HP.out.bound (k := k) (by omega)
            have hE := preM_succ2 hk (n : Int)
            have HPZ := Lib.hid hpz
            obtain ⟨hp1, hp2⟩ := mul_bound2 (B := 419430400) hp.1 (by omega) (Int.le_trans (by decide) hn.1) hn.2 (by omega)
            obtain ⟨hx1, hx2⟩ := mul_bound2 (B := 1048576) hx.1 hx.2 (Int.le_trans (by decide) hn.1) hn.2 (by omega)
            clear hcell hpz
            obtain ⟨v, hv⟩ : ∃ v, W.getD k 0 * (n : Int) = v := ⟨_, rfl⟩
            obtain ⟨p, hpp⟩ : ∃ p, pre W k * (n : Int) = p := ⟨_, rfl⟩
            rw [hv] at hx1 hx2
            rw [hpp] at hp1 hp2
            rw [hv, hpp] at hE
            have HE := Lib.hid hE
            have HPP := Lib.hid hpp
            have hpz := HPZ.out
            rw [hpp] at hpz
            have hki : (k : Int) < (W.length : Int) := by omega
            clear hE hpp HPZ
            rw [HPP.out]
            by_cases hge : v ≤ s + y - p
            · have hk1 : k + 1 < W.length := by
                by_cases e : k + 1 = W.length
                · exfalso
                  have h1 := HE.out
                  rw [e, pre_all, HS.out, HM.out] at h1
                  omega
                · omega
              have d1 : decide (v ≤ s + y - p) = true := decide_eq_true hge
              generalize W.getD k 0 = x at *
              go_wp2
              go_round
              case rel => exact ⟨k + 1, hk1, by go_num, by rw [HE.out]; go_num, by rw [HE.out]; omega⟩
              case measure => simp [intOf]; omega
            · have d1 : decide (v ≤ s + y - p) = false := decide_eq_false hge
              rw [ow_in HP.out hk (by rw [HPP.out]; exact hpz) (by rw [HE.out]; omega)] at HT
              generalize W.getD k 0 = x at *
              go_wp2_with (at_builtin; refine wpList_push rfl _ _ rfl w.heap.size u10 ((tkL W n s).take t) (k : Int) rfl HO.out rfl htb HB.out.size HB.out ?_)
              intro g cap w2 ho2 hB2 _
              have HO2 := Lib.hid ho2
              rw [HT.out] at HO2
              have HB2 := Lib.hid hB2
              clear HO HB ho2 hB2
              go_wp2
              go_roundw
              case rel => exact ⟨t + 1, by omega, by go_num, HO2.out, HB2.out⟩
              case measure => simp [intOf]; omega
        · obtain rfl : t = n := by omega
          have htl : (tkL W t s).take t = tkL W t s := by
            have := List.take_length (l := tkL W t s)
            rw [tkL_len] at this; exact this
          rw [htl] at HO
          go_wp2
          go_ret2
          exact lpost_oi HO.out HB.out
    · rw [takeP_out h hs]
      have hs2 : (s < 0 ∧ decide (s < 0) = true) ∨ (sumW W ≤ s ∧ decide (s < 0) = false ∧ decide (sumW W ≤ s) = true) := by
        by_cases h : s < 0
        · exact .inl ⟨h, decide_eq_true h⟩
        · exact .inr ⟨by omega, decide_eq_false h, decide_eq_true (by omega)⟩
      clear hW h hs
      rcases hs2 with ⟨h, t1⟩ | ⟨h, t1, t2⟩
      all_goals
        go_enter Try.func11, Try.ntmps11
        go_wp2_with fail
        refine C.out.mono ?_
        rintro e w1 ⟨rfl, rfl⟩
        go_wp2
        go_ret2
        exact lpost_none (Below.refl _ _)
end Go.Proofs.Ythfnnceehhhfkaa
