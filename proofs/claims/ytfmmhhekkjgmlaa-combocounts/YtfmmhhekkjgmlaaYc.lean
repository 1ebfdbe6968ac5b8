/- lotdrawerlaw.ComboCounts: the walk. -/
import Derived.Test.YtfmmhhekkjgmlaaX5
import Derived.Test.YtfmmhhekkjgmlaaX7
import Derived.Test.YtfmmhhekkjgmlaaX8
import Derived.Test.YtfmmhhekkjgmlaaT5
namespace Go.Proofs.Ytfmmhhekkjgmlaa
open Go.RowKit Go.Deep

theorem mem_ints {q : List Nat} {x : Nat} : ((x : Int) ∈ ints q) ↔ x ∈ q := by
  unfold ints
  simp only [List.mem_map]
  constructor
  · rintro ⟨a, ha, e⟩
    have : a = x := by omega
    rwa [← this]
  · intro h; exact ⟨x, h, rfl⟩

set_option maxRecDepth 100000 in
set_option maxHeartbeats 4000000 in
theorem comboCounts_walk (n k : Int) (A : Option Addr) (ca : Nat) (c : List Int) (w : World) (hc : IP w A ca c) (hk : k ≤ 9223372036854775807) :
    Calls Try.prog 3 #[.int .i64 n, .int .i64 k, .slice A c.length ca] w fun e w' => e = .returned (.bool true) ∧ Below w.heap.size w w' := by
  have C1 := Lib.hid (of_any n k w hk)
  have C2 := Lib.hid (rest_any5 n A ca c w hc)
  have hle := hc.le
  have hcap := hc.cap
  have HC := Lib.hid hc
  clear hc
  unfold ofR at C1
  obtain ⟨⟨L, e2⟩, hL⟩ : ∃ r, restC n c = r := ⟨_, rfl⟩
  rw [hL] at C2
  have HL := Lib.hid hL
  clear hL
  rcases (show n < 0 ∨ (0 ≤ n ∧ 60 < n) ∨ (0 ≤ n ∧ n ≤ 60 ∧ k < 0) ∨ (0 ≤ n ∧ n ≤ 60 ∧ 0 ≤ k) by omega) with h1 | ⟨h0, h1⟩ | ⟨h0, h1, h2⟩ | ⟨h0, h1, h2⟩
  case' inr.inr.inr =>
    rw [if_neg (by omega)] at C1
    obtain ⟨N, hN⟩ : ∃ N : Nat, n.toNat = N := ⟨_, rfl⟩
    obtain ⟨K, hK⟩ : ∃ K : Nat, k.toNat = K := ⟨_, rfl⟩
    rw [hN, hK] at C1
    have hn' : n = (N : Int) := by omega
    have hk' : k = (K : Int) := by omega
    have C3 : Hid (∀ wx, Calls Try.prog 11 #[.int .i64 n, .int .i64 k] wx fun e w' => e = .returned (.int .i64 (bc N K : Nat)) ∧ Below wx.heap.size wx w') := fun wx => by
      rw [hn', hk']; exact eOf_any N K wx (by omega) (by omega)
    clear hN hK hn' hk'
    generalize bc N K = z at *
    unfold ptup at C1
    go_enter Try.func3, Try.ntmps3
    go_wp2_with fail
    refine C1.out.mono ?_
    rintro e w1 ⟨rfl, rfl⟩
    clear C1
    go_wp2_with fail
    refine C2.out.mono ?_
    rintro e w2 ⟨R, cr, rfl, hI, hB⟩
    clear C2
    unfold ltup
    simp only []
    have C3 := Lib.hid (C3.out w2)
    have t1 : ((z : Int) != (z : Int)) = false := by simp
    go_wp2_with fail
    refine C3.out.mono ?_
    rintro e wz ⟨rfl, hB3⟩
    have HI : Hid (IP wz R cr L) := IP.later hI hB3
    have HB := Lib.hid (hB.trans (hB3.mono hB.size))
    clear C3 hB hB3 hI t1
  case' inl => rw [if_pos (by omega)] at C1
  case' inr.inl => rw [if_pos (by omega)] at C1
  case' inr.inr.inl => rw [if_pos (by omega)] at C1
  case' inl | inr.inl | inr.inr.inl =>
    unfold ptup at C1
    go_enter Try.func3, Try.ntmps3
    go_wp2_with fail
    refine C1.out.mono ?_
    rintro e w1 ⟨rfl, rfl⟩
    clear C1
    go_wp2_with fail
    refine C2.out.mono ?_
    rintro e wz ⟨R, cr, rfl, hI, hB⟩
    clear C2
    unfold ltup
    simp only []
    have HI : Hid (IP wz R cr L) := hI
    have HB := Lib.hid hB
    clear hI hB
  all_goals
    have HC := Lib.hid (HC.out.later HB.out)
    have C4 := Lib.hid (right_any5 n A ca c wz HC.out)
    have C5 := Lib.hid (eRight_any n A ca c wz HC.out)
    rcases Classical.em (RC n c) with hok | hok
  any_goals (exfalso; have := hok.1; omega)
  case inr.inr.inl.inl | inr.inr.inr.inl =>
      rw [decide_eq_true hok] at C4 C5
      obtain ⟨N, q, hn', hc', hN, hQ⟩ := rc_open hok
      subst hn' hc'
      have hL := HL.out
      rw [restC_yes hN hQ] at hL
      injection hL with hL1 hL2
      subst hL1 hL2
      have hlen := hQ.len_le
      rw [ints_len] at C4 C5 ⊢
      rw [ints_len] at hle
      clear HL hok hQ
      go_wp2_with fail
      refine C4.out.mono ?_
      rintro e w4 ⟨rfl, rfl⟩
      go_wp2_with fail
      refine C5.out.mono ?_
      rintro e w5 ⟨rfl, rfl⟩
      go_wp2_with fail
      refine C5.out.mono ?_
      rintro e w6 ⟨rfl, rfl⟩
      clear C4 C5
      have HO := Lib.hid (OI.nil w6 w6.heap.size)
      go_wp2_with fail
      go_loopw [11, 69] (fun vv iv wr => ∃ i : Nat, i ≤ N ∧ iv = .int .i64 i ∧ OI wr w6.heap.size vv (ints (restN i q)) ∧ Below w6.heap.size w6 wr) (fun _ iv _ => N - (intOf iv).toNat)
      case atStart => exact ⟨0, by omega, rfl, HO.out, Below.refl _ _⟩
      case round =>
        clear HO
        obtain ⟨i, hi, rfl, hO, hB⟩ := hrel
        have HO := Lib.hid hO
        have HBi := Lib.hid hB
        clear hO hB
        by_cases hlt : i < N
        · have C6 := Lib.hid (containsI_any A ca (ints q) (i : Int) wr (HC.out.later HBi.out))
          rw [ints_len] at C6
          by_cases hm : i ∈ q
          · rw [decide_eq_true (mem_ints.2 hm)] at C6
            have HN := Lib.hid (restN_in hm)
            clear hm
            go_wp2_with fail
            refine C6.out.mono ?_
            rintro e w7 ⟨rfl, hB7⟩
            have HO2 := Lib.hid (HO.out.later hB7)
            have HB2 := Lib.hid (HBi.out.trans (hB7.mono HBi.out.size))
            rw [← HN.out] at HO2
            clear C6 hB7
            go_wp2
            go_roundw
            case rel => exact ⟨i + 1, by omega, by go_num, HO2.out, HB2.out⟩
            case measure => simp [intOf]; omega
          · rw [decide_eq_false (fun h => hm (mem_ints.1 h))] at C6
            have HN := Lib.hid (restN_out hm)
            have hxl := restN_len i q
            have hxl2 : (ints (restN i q)).length < 17592186044416 := by rw [ints_len]; omega
            clear hm hxl
            go_wp2_with fail
            refine C6.out.mono ?_
            rintro e w7 ⟨rfl, hB7⟩
            have HO2 := Lib.hid (HO.out.later hB7)
            have HB2 := Lib.hid (HBi.out.trans (hB7.mono HBi.out.size))
            clear C6 hB7 HO HBi
            go_wp2_with (at_builtin; refine wpList_push rfl _ _ rfl w6.heap.size u11 (ints (restN i q)) (i : Int) rfl HO2.out rfl hxl2 HB2.out.size HB2.out ?_)
            intro g cap w8 ho8 hB8 _
            rw [ints_snoc, ← HN.out] at ho8
            have HO8 := Lib.hid ho8
            have HB8 := Lib.hid hB8
            clear HO2 HB2 ho8 hB8
            go_wp2
            go_roundw
            case rel => exact ⟨i + 1, by omega, by go_num, HO8.out, HB8.out⟩
            case measure => simp [intOf]; omega
        · obtain rfl : N = i := by omega
          obtain ⟨R9, c9, rfl, hI9⟩ := HO.out.ip
          have hl9 := restN_len N q
          have C7 := Lib.hid (iequal_any R R9 cr c9 (ints (restN N q)) (ints (restN N q)) wr (HI.out.later HBi.out).il hI9.il (by rw [ints_len]; omega) (by rw [ints_len]; omega))
          rw [decide_eq_true rfl] at C7
          clear HO hI9
          go_wp2_with fail
          refine C7.out.mono ?_
          rintro e w7 ⟨rfl, hB7⟩
          have HB2 := Lib.hid (HB.out.trans (HBi.out.mono HB.out.size))
          have HB3 := Lib.hid (HB2.out.trans (hB7.mono HB2.out.size))
          clear C7 hB7 HB2 HBi
          go_wp2
          go_ret
          exact ⟨rfl, HB3.out⟩
  all_goals
      rw [decide_eq_false hok] at C4 C5
      have hL := HL.out
      unfold restC at hL
      rw [if_neg hok] at hL
      injection hL with hL1 hL2
      subst hL1 hL2
      clear HL hok
      go_wp2_with fail
      refine C4.out.mono ?_
      rintro e w4 ⟨rfl, rfl⟩
      go_wp2_with fail
      refine C5.out.mono ?_
      rintro e w5 ⟨rfl, rfl⟩
      go_wp2_with fail
      refine C5.out.mono ?_
      rintro e w6 ⟨rfl, rfl⟩
      clear C4 C5
      go_wp2
      go_ret
      exact ⟨rfl, HB.out⟩
end Go.Proofs.Ytfmmhhekkjgmlaa
