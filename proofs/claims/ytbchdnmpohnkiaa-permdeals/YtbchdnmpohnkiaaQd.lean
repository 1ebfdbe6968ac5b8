/- lotdrawerlaw.PermDeals: the walk. -/
import Derived.Test.YtbchdnmpohnkiaaP8
import Derived.Test.YtbchdnmpohnkiaaP4
import Derived.Test.YtbchdnmpohnkiaaT5
import Derived.Test.YtbchdnmpohnkiaaS1
import Derived.Test.YtbchdnmpohnkiaaS2
namespace Go.Proofs.Ytbchdnmpohnkiaa
open Go.RowKit Go.Deep

theorem cnt_from {p : List Int} {k : Nat} (hk : k < p.length) : cnt (p.getD k 0) (p.drop k) = (code p).getD k 0 := by
  rw [code_at hk, drop_cons hk]
  simp [cnt]
theorem upTo_snoc (f : Nat → Int) (k : Nat) : (List.range (k + 1)).map f = (List.range k).map f ++ [f k] := by simp [List.range_succ]

set_option maxRecDepth 100000 in
set_option maxHeartbeats 8000000 in
theorem permDeals_walk (D A B : Option Addr) (cd ca cb : Nat) (ds p q : List Int) (w : World) (hd : IP w D cd ds) (hp : IP w A ca p) (hq : IP w B cb q) :
    Calls Try.prog 3 #[.slice D ds.length cd, .slice A p.length ca, .slice B q.length cb] w fun e w' => e = .returned (.bool true) ∧ Below w.heap.size w w' := by
  have hle := hp.le
  have hcap := hp.cap
  have hle2 := hq.le
  have hcap2 := hq.cap
  have hle3 := hd.le
  have hcap3 := hd.cap
  have HD := Lib.hid hd
  have HP := Lib.hid hp
  have HQ := Lib.hid hq
  have C1 := Lib.hid (permDeal_any D cd ds w hd)
  clear hd hp hq
  go_enter Try.func3, Try.ntmps3
  go_wp2_with fail
  refine C1.out.mono ?_
  rintro e w1 ⟨R1, c1, rfl, hI1, hB1⟩
  have C2 := Lib.hid (ddeal_any D cd ds w1 (HD.out.later hB1))
  have I1 := Lib.hid hI1
  have HB := Lib.hid hB1
  clear C1 hI1 hB1
  unfold ltup
  go_wp2_with fail
  refine C2.out.mono ?_
  rintro e w2 ⟨R2, c2, rfl, hI2, hB2⟩
  have I1 := Lib.hid (I1.out.later hB2)
  have I2 := Lib.hid hI2
  have HB := Lib.hid (HB.out.trans (hB2.mono HB.out.size))
  have C3 := Lib.hid (permCode_any A ca p w2 (HP.out.later HB.out))
  clear C2 hI2 hB2
  unfold ltup
  obtain ⟨⟨L1, e1⟩, hL1⟩ : ∃ r, dealR ds = r := ⟨_, rfl⟩
  rw [hL1] at I1 I2 ⊢
  have hb1 : L1.length ≤ 9223372036854775807 := by have h1 := I1.out.le; have h2 := I1.out.cap; simp only [] at h1; omega
  clear hL1
  simp only [] at I1 I2 ⊢
  go_wp2_with fail
  refine C3.out.mono ?_
  rintro e w3 ⟨R3, c3, rfl, hI3, hB3⟩
  have I1 := Lib.hid (I1.out.later hB3)
  have I2 := Lib.hid (I2.out.later hB3)
  have I3 := Lib.hid hI3
  have HB := Lib.hid (HB.out.trans (hB3.mono HB.out.size))
  have C4 := Lib.hid (permThen_any A B ca cb p q w3 (HP.out.later HB.out) (HQ.out.later HB.out))
  clear C3 hI3 hB3
  unfold ltup
  obtain ⟨⟨L3, e3⟩, hL3⟩ : ∃ r, codeR p = r := ⟨_, rfl⟩
  rw [hL3] at I3 ⊢
  have HL3 := Lib.hid hL3
  have hb3 : L3.length ≤ 9223372036854775807 := by have h1 := I3.out.le; have h2 := I3.out.cap; simp only [] at h1; omega
  clear hL3
  simp only [] at I3 ⊢
  go_wp2_with fail
  refine C4.out.mono ?_
  rintro e w4 ⟨R4, c4, rfl, hI4, hB4⟩
  have I1 := Lib.hid (I1.out.later hB4)
  have I2 := Lib.hid (I2.out.later hB4)
  have I3 := Lib.hid (I3.out.later hB4)
  have I4 := Lib.hid hI4
  have HB := Lib.hid (HB.out.trans (hB4.mono HB.out.size))
  have C5 := Lib.hid (permBack_any A ca p w4 (HP.out.later HB.out))
  clear C4 hI4 hB4
  unfold ltup
  obtain ⟨⟨L4, e4⟩, hL4⟩ : ∃ r, thenR p q = r := ⟨_, rfl⟩
  rw [hL4] at I4 ⊢
  have HL4 := Lib.hid hL4
  have hb4 : L4.length ≤ 9223372036854775807 := by have h1 := I4.out.le; have h2 := I4.out.cap; simp only [] at h1; omega
  clear hL4
  simp only [] at I4 ⊢
  go_wp2_with fail
  refine C5.out.mono ?_
  rintro e w5 ⟨R5, c5, rfl, hI5, hB5⟩
  have I1 := Lib.hid (I1.out.later hB5)
  have I2 := Lib.hid (I2.out.later hB5)
  have I3 := Lib.hid (I3.out.later hB5)
  have I4 := Lib.hid (I4.out.later hB5)
  have I5 := Lib.hid hI5
  have HB := Lib.hid (HB.out.trans (hB5.mono HB.out.size))
  have C6 := Lib.hid (permRight_any A ca p w5 (HP.out.later HB.out))
  clear C5 hI5 hB5
  unfold ltup
  obtain ⟨⟨L5, e5⟩, hL5⟩ : ∃ r, backR p = r := ⟨_, rfl⟩
  rw [hL5] at I5 ⊢
  have HL5 := Lib.hid hL5
  have hb5 : L5.length ≤ 9223372036854775807 := by have h1 := I5.out.le; have h2 := I5.out.cap; simp only [] at h1; omega
  clear hL5
  simp only [] at I5 ⊢
  obtain ⟨bo, hbo⟩ : ∃ bo, decide (Ok p) = bo := ⟨_, rfl⟩
  have HBO := Lib.hid hbo
  rw [hbo] at C6
  go_wp2_with fail
  refine C6.out.mono ?_
  rintro e w6 ⟨rfl, hB6⟩
  have I1 := Lib.hid (I1.out.later hB6)
  have I2 := Lib.hid (I2.out.later hB6)
  have I3 := Lib.hid (I3.out.later hB6)
  have I4 := Lib.hid (I4.out.later hB6)
  have I5 := Lib.hid (I5.out.later hB6)
  have HB := Lib.hid (HB.out.trans (hB6.mono HB.out.size))
  have C7 := Lib.hid (dright_any A ca p w6 (HP.out.later HB.out))
  rw [hbo] at C7
  have C8 := Lib.hid (iequal_any R1 R2 c1 c2 L1 L1 w6 I1.out.il I2.out.il hb1 hb1)
  rw [decide_eq_true rfl] at C8
  clear C6 hB6 hbo I1 I2
  go_wp2_with fail
  refine C7.out.mono ?_
  rintro e w7 ⟨rfl, rfl⟩
  have tb : (bo != bo) = false := by cases bo <;> rfl
  have te : (e1 != e1) = false := by simp
  go_wp2_with fail
  refine C8.out.mono ?_
  rintro e w8 ⟨rfl, hB8⟩
  have I3 := Lib.hid (I3.out.later hB8)
  have I4 := Lib.hid (I4.out.later hB8)
  have I5 := Lib.hid (I5.out.later hB8)
  have HB := Lib.hid (HB.out.trans (hB8.mono HB.out.size))
  have C9 := Lib.hid (dright_any A ca p w8 (HP.out.later HB.out))
  rw [HBO.out] at C9
  clear C7 C8 hB8
  go_wp2_with fail
  refine C9.out.mono ?_
  rintro e w9 ⟨rfl, rfl⟩
  clear C9
  cases bo
  · have hno : ¬ Ok p := of_decide_eq_false HBO.out
    have h3 := HL3.out
    have h4 := HL4.out
    have h5 := HL5.out
    unfold codeR at h3
    unfold thenR at h4
    unfold backR at h5
    rw [if_neg hno] at h3 h5
    rw [if_neg (fun h => hno h.1)] at h4
    cases h3
    cases h4
    cases h5
    clear hno HL3 HL4 HL5 I3 I4 I5
    go_wp2
    go_ret
    exact ⟨rfl, HB.out⟩
  · have hok : Ok p := of_decide_eq_true HBO.out
    have h3 := HL3.out
    have h5 := HL5.out
    unfold codeR at h3
    unfold backR at h5
    rw [if_pos hok] at h3 h5
    cases h3
    cases h5
    have HO := Lib.hid hok
    have hlen := hok.1
    have hl3 : (ints (code p)).length = p.length := by rw [ints_len, code_len]
    have hl5 := backL_len p
    have t3 := neq_no hl3
    have t5 := neq_no hl5
    clear hok HL3 HL5
    obtain ⟨wa, hwa⟩ : ∃ wa, wa = w9 := ⟨_, rfl⟩
    subst hwa
    go_wp2_with fail
    go_loopw [115] (fun iv wr => ∃ k : Nat, k ≤ p.length ∧ iv = .int .i64 k ∧ wr = wa) (fun iv _ => p.length - (intOf iv).toNat)
    case atStart => exact ⟨0, by omega, rfl, rfl⟩
    case round =>
      obtain ⟨k, hk, rfl, rfl⟩ := hrel
      by_cases hlt : k < p.length
      · obtain ⟨A2, hA2, hI2⟩ := tail_ip (HP.out.later HB.out) (c := k) (by omega)
        have HI2 := Lib.hid hI2
        have hl2 : (p.drop k).length = p.length - k := List.length_drop
        have E := Lib.hid (cnt_from hlt)
        obtain ⟨x, hx, hxl⟩ := HO.out.at hlt
        have hbk := backL_at HO.out hlt hx hxl
        obtain ⟨b, off, rfl, _, hc⟩ := (HP.out.il.later HB.out).at (by omega)
        have hck := hc k hlt
        obtain ⟨b3, off3, rfl, _, hc3⟩ := I3.out.il.at (by omega)
        have hck3 := hc3 k (by omega)
        obtain ⟨b5, off5, rfl, _, hc5⟩ := I5.out.il.at (by omega)
        have hcx5 := hc5 x (by omega)
        rw [hx] at hck E
        rw [ints_at] at hck3
        rw [hbk] at hcx5
        obtain ⟨l, hl⟩ : ∃ l, p.drop k = l := ⟨_, rfl⟩
        rw [hl] at hl2 HI2 E
        have HL : Hid (∀ j, cnt (x : Int) (l.take j) ≤ j) := fun j => Nat.le_trans (cnt_le _ _) (by rw [List.length_take]; omega)
        simp only [Option.map_some, Addr.add_lit] at hA2
        rw [if_neg (by omega)] at hA2
        subst hA2
        have i1 : (k : Int) < (p.length : Int) := by omega
        have i2 : (x : Int) < (p.length : Int) := by omega
        clear hc hc3 hc5 hx hbk hl hI2
        generalize (code p).getD k 0 = c at *
        go_wp2_with fail
        go_loopw [19, 124] (fun nv iv wq => ∃ j : Nat, j ≤ l.length ∧ nv = .int .i64 (cnt (x : Int) (l.take j) : Nat) ∧ iv = .int .i64 j ∧ wq = wr) (fun _ iv _ => l.length - (intOf iv).toNat)
        case atStart => exact ⟨0, by omega, by simp [cnt], rfl, rfl⟩
        case round =>
          obtain ⟨j, hj, rfl, rfl, rfl⟩ := hrel
          by_cases hjl : j < l.length
          · obtain ⟨b2, off2, e2, _, hc2⟩ := HI2.out.il.at (by omega)
            cases e2
            have hcj := hc2 j hjl
            have EN := Lib.hid (cnt_snoc (x : Int) (l.getD j 0) (l.take j))
            rw [← take_snoc hjl] at EN
            have hb := HL.out j
            generalize cnt (x : Int) (l.take j) = n at *
            obtain ⟨y, hy⟩ : ∃ y, l.getD j 0 = y := ⟨_, rfl⟩
            rw [hy] at hcj EN
            clear hc2 hy
            by_cases hyx : y < (x : Int)
            · rw [if_pos hyx] at EN
              go_wp2
              go_roundw
              case rel => exact ⟨j + 1, by omega, by rw [EN.out]; go_num, by go_num, trivial⟩
              case measure => simp [intOf]; omega
            · rw [if_neg hyx] at EN
              go_wp2
              go_roundw
              case rel => exact ⟨j + 1, by omega, by rw [EN.out]; rfl, by go_num, trivial⟩
              case measure => simp [intOf]; omega
          · obtain rfl : l.length = j := by omega
            rw [List.take_length, E.out]
            have tc : ((c : Int) != (c : Int)) = false := by simp
            have tk : ((k : Int) != (k : Int)) = false := by simp
            clear HL E
            go_wp2
            go_roundw
            case rel => exact ⟨k + 1, by omega, by go_num, trivial⟩
            case measure => simp [intOf]; omega
      · obtain rfl : p.length = k := by omega
        have C10 := Lib.hid (dright_any B cb q wr (HQ.out.later HB.out))
        have h4 := HL4.out
        unfold thenR at h4
        by_cases hoq : Ok q
        · rw [decide_eq_true hoq] at C10
          by_cases hpq : p.length = q.length
          · rw [if_pos ⟨HO.out, hoq, hpq⟩] at h4
            cases h4
            have tpq := neq_no hpq
            have HPQ := Lib.hid hpq
            clear hoq hpq HL4 I3 I5
            have hl4 := thenL_len p q
            go_wp2_with fail
            refine C10.out.mono ?_
            rintro e w10 ⟨rfl, rfl⟩
            clear C10
            obtain ⟨wa, hwa⟩ : ∃ wa, wa = w10 := ⟨_, rfl⟩
            subst hwa
            go_wp2_with fail
            go_loopw [22, 168] (fun ov iv wr => ∃ (v : Value) (k : Nat), v = ov ∧ k ≤ p.length ∧ iv = .int .i64 k ∧ OI wr wa.heap.size v ((List.range k).map (thenF p q)) ∧ Below wa.heap.size wa wr) (fun _ iv _ => p.length - (intOf iv).toNat)
            case atStart => exact ⟨_, 0, rfl, by omega, rfl, OI.nil _ _, Below.refl _ _⟩
            case round =>
              obtain ⟨v, k, rfl, hk, rfl, ho, hB⟩ := hrel
              have HO2 := Lib.hid ho
              have HB2 := Lib.hid hB
              have hil : ((List.range k).map (thenF p q)).length = k := by simp
              clear ho hB
              by_cases hlt : k < p.length
              · have ES := Lib.hid (upTo_snoc (thenF p q) k)
                obtain ⟨x, hx, hxl⟩ := HO.out.at hlt
                have hF : thenF p q k = q.getD x 0 := by unfold thenF; rw [hx]; rfl
                have hB3 : Below w.heap.size w wr := HB.out.trans (HB2.out.mono HB.out.size)
                obtain ⟨b, off, rfl, _, hc⟩ := (HP.out.il.later hB3).at (by omega)
                have hck := hc k hlt
                have hxq : x < q.length := by have := HPQ.out; omega
                obtain ⟨bq, offq, rfl, _, hcq⟩ := (HQ.out.il.later hB3).at (by omega)
                have hcx := hcq x hxq
                rw [hx] at hck
                rw [hF] at ES
                have i1 : (k : Int) < (p.length : Int) := by omega
                have i2 : (x : Int) < (q.length : Int) := by omega
                clear hc hcq hx hB3 hF
                generalize q.getD x 0 = y at *
                go_wp2_with (at_builtin; refine wpList_push rfl _ _ rfl wa.heap.size v _ y rfl HO2.out rfl (by rw [hil]; omega) HB2.out.size HB2.out ?_)
                intro g cap w2 ho2 hB2 _
                rw [← ES.out] at ho2
                have HO3 := Lib.hid ho2
                have HB3 := Lib.hid hB2
                clear ho2 hB2 HO2 HB2
                go_wp2
                go_roundw
                case rel => exact ⟨_, k + 1, rfl, by omega, by go_num, HO3.out, HB3.out⟩
                case measure => simp [intOf]; omega
              · obtain rfl : p.length = k := by omega
                obtain ⟨R, cr, rfl, hI⟩ := HO2.out.ip
                have hI' : IP wr R cr (thenL p q) := hI
                have C11 := Lib.hid (iequal_any R4 R c4 cr (thenL p q) (thenL p q) wr (I4.out.later HB2.out).il hI'.il (by omega) (by omega))
                rw [decide_eq_true rfl] at C11
                have HB3 := Lib.hid (HB.out.trans (HB2.out.mono HB.out.size))
                try rw [hil]
                rw [hl4] at C11
                clear HO2 hI hI' hil hl4 HB2
                go_wp2_with fail
                refine C11.out.mono ?_
                rintro e w11 ⟨rfl, hB11⟩
                have HB4 := Lib.hid (HB3.out.trans (hB11.mono HB3.out.size))
                clear C11 hB11
                go_wp2
                go_ret
                exact ⟨rfl, HB4.out⟩
          · rw [if_neg (fun h => hpq h.2.2)] at h4
            cases h4
            have tpq := neq_yes hpq
            clear hoq hpq HL4 I4 I3 I5
            go_wp2_with fail
            refine C10.out.mono ?_
            rintro e w10 ⟨rfl, rfl⟩
            clear C10
            go_wp2
            go_ret
            exact ⟨rfl, HB.out⟩
        · rw [decide_eq_false hoq] at C10
          rw [if_neg (fun h => hoq h.2.1)] at h4
          cases h4
          clear hoq HL4 I4 I3 I5
          go_wp2_with fail
          refine C10.out.mono ?_
          rintro e w10 ⟨rfl, rfl⟩
          clear C10
          go_wp2
          go_ret
          exact ⟨rfl, HB.out⟩
end Go.Proofs.Ytbchdnmpohnkiaa
