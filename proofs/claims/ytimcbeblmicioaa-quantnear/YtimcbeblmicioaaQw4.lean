/- lotdrawerkeep.QuantTrue, out of contracts. -/
import Derived.Test.YtimcbeblmicioaaQw1
import Derived.Test.YtimcbeblmicioaaCq
namespace Go.Proofs.Ytimcbeblmicioaa
open Go.RowKit Go.Deep

theorem take_snocQ {xs : List Int} {k : Nat} (h : k < xs.length) : xs.take (k + 1) = xs.take k ++ [xs.getD k 0] := by
  rw [List.take_succ_eq_append_getElem h]
  simp [List.getD_eq_getElem?_getD, h]
theorem qtru_at {xs : List Int} : ∀ {l : List Rk} {a : Int} (i : Nat), qtru xs a l → i < l.length → (rat l i).n ∈ xs ∧ a + qtot (l.take (i + 1)) ≤ cle xs (rat l i).n ∧ clt xs (rat l i).n + 1 ≤ a + qtot (l.take (i + 1)) + (rat l i).m
  | [], _, _, _, hi => by simp at hi
  | r :: l, a, 0, h, _ => by
    obtain ⟨⟨h1, h2, h3, h5⟩, -⟩ := h
    have e : qtot ((r :: l).take (0 + 1)) = r.g := by simp [qtot]
    rw [e]
    exact ⟨h1, h2, h3⟩
  | r :: l, a, i + 1, h, hi => by
    have := qtru_at (l := l) (a := a + r.g) i h.2 (by simpa using hi)
    have e : qtot ((r :: l).take (i + 1 + 1)) = r.g + qtot (l.take (i + 1)) := by simp [qtot]
    rw [e, ← Int.add_assoc]
    exact this

set_option maxRecDepth 100000 in
set_option maxHeartbeats 4000000 in
theorem quantTrue_walk (KF : CtFind) (KL : CtAll) (KR : CtRight) (KC : CtCount) (p : Int) (X : Option Addr) (cx : Nat) (xs : List Int) (w : World) (hX : IP w X cx xs) :
    Calls Try.prog 6 #[.int .i64 p, .slice X xs.length cx] w fun e w' => e = .returned (.bool true) ∧ Below w.heap.size w w' := by
  have CA := Lib.hid (alive15_any KF KL KR KC)
  have C1 : Hid (∀ w', Below w.heap.size w w' → Calls Try.prog 12 #[.int .i64 p, .slice X xs.length cx] w' (RPost w' (qallC p xs))) := fun w' hb => KL p X cx xs w' (hX.later hb)
  have hlx := hX.le
  have hcx := hX.cap
  have HX := Lib.hid hX
  unfold RPost at C1
  clear hX KF KL KR KC
  by_cases he : (qallC p xs).2 = 0
  · have hI := qallC_inv he
    obtain ⟨⟨S, ei⟩, hq⟩ : ∃ q, qallC p xs = q := ⟨_, rfl⟩
    rw [hq] at C1 he hI
    dsimp only at C1 he hI
    subst he
    have htot := hI.tot
    have ht40 := hI.right.tot
    have hxs : xs.length ≤ 1099511627776 := by omega
    have HI := Lib.hid hI
    have hs400 := hI.right.len
    clear hq hI htot ht40
    go_enter Try.func6, Try.ntmps6
    go_wp2_with fail
    refine (CA.out _).mono ?_
    rintro e w1 ⟨rfl, hb⟩
    have HB1 := Lib.hid hb
    clear hb
    go_wp2_with fail
    refine (C1.out _ HB1.out).mono ?_
    rintro e w2 ⟨R, c, rfl, hP, hb⟩
    have HB2 := Lib.hid (HB1.out.trans (hb.mono HB1.out.size))
    have HP := Lib.hid hP
    have hle := hP.le
    have hca := hP.cap
    clear hb hP HB1 C1 CA
    go_wp2_with fail
    go_loopw [7, 26] (fun lv iv wr => ∃ k : Nat, k ≤ S.length ∧ iv = .int .i64 k ∧ lv = .int .i64 (qtot (S.take k)) ∧ Below w2.heap.size w2 wr) (fun _ iv _ => S.length - (intOf iv).toNat)
    case atStart => exact ⟨0, by omega, rfl, rfl, Below.refl _ _⟩
    case round =>
      obtain ⟨k, hk, rfl, rfl, hD⟩ := hrel
      have HD := Lib.hid hD
      have HBD := Lib.hid (HB2.out.trans (hD.mono HB2.out.size))
      clear hD
      by_cases hlt : k < S.length
      · obtain ⟨g, o, rfl, _, hcell⟩ := (HP.out.later HD.out).il (by omega)
        obtain ⟨c0, c1, c2⟩ := hcell k hlt
        have hki : (k : Int) < (S.length : Int) := by omega
        obtain ⟨m1, m2, m3⟩ := qtru_at (a := 0) k HI.out.tru hlt
        obtain ⟨b1, b2, b3, b4⟩ := HI.out.right.each _ (rat_mem hlt)
        have hg0 : ∀ r ∈ S, 0 ≤ r.g := fun r hr => by have := (HI.out.right.each r hr).1; omega
        have q0 := qtot_take_le hg0 k
        have q1 := qtot_take_le hg0 (k + 1)
        have qS := HI.out.right.tot
        have E := Lib.hid (qtot_take hlt)
        rw [Int.zero_add] at m2 m3
        have hce := ceq_pos m1
        have hcp := cle_parts (rat S k).n xs
        have hcl := clt_le xs (rat S k).n
        have hcq := ceq_le xs (rat S k).n
        rw [hcp] at m2
        rw [E.out] at m2 m3
        have HM := Lib.hid (And.intro hce (And.intro m2 m3))
        have HBN := Lib.hid (HD.out.alloc HD.out.size (.cells #[.int .i64 (rat S k).n, .int .i64 (rat S k).g, .int .i64 (rat S k).m] 33))
        have HXN := Lib.hid (HX.out.later (HBD.out.alloc HBD.out.size (.cells #[.int .i64 (rat S k).n, .int .i64 (rat S k).g, .int .i64 (rat S k).m] 33)))
        rw [E.out] at q1
        clear hcell hg0 m1 m2 m3 hce hcp
        generalize (rat S k).n = N at *
        generalize (rat S k).g = G at *
        generalize (rat S k).m = M at *
        generalize hsq : qtot (S.take k) = s at *
        clear hsq
        have hsg : 0 ≤ s + G ∧ s + G ≤ 1099511627776 := by omega
        go_wp2_with fail
        have hsi : 0 ≤ s := q0.1
        go_loop [10, 11, 36] (fun lv sv iv => ∃ j : Nat, j ≤ xs.length ∧ iv = .int .i64 j ∧ lv = .int .i64 (clt (xs.take j) N) ∧ sv = .int .i64 (ceq (xs.take j) N)) (fun _ _ iv => xs.length - (intOf iv).toNat)
        case atStart => exact ⟨0, by omega, rfl, rfl, rfl⟩
        case round =>
          obtain ⟨j, hj, rfl, rfl, rfl⟩ := hrel
          have hjl := clt_le (xs.take j) N
          have hjq := ceq_le (xs.take j) N
          rw [List.length_take] at hjl hjq
          by_cases hjt : j < xs.length
          · obtain ⟨bx, ox, rfl, _, hxc⟩ := HXN.out.il.at (by omega)
            have hc := hxc j hjt
            have hji : (j : Int) < (xs.length : Int) := by omega
            have EL : Hid (clt (xs.take (j + 1)) N = clt (xs.take j) N + if xs.getD j 0 < N then 1 else 0) := by show _ = _; rw [take_snocQ hjt, clt_snoc]
            have EQ : Hid (ceq (xs.take (j + 1)) N = ceq (xs.take j) N + if xs.getD j 0 = N then 1 else 0) := by show _ = _; rw [take_snocQ hjt, ceq_snoc]
            clear hxc
            generalize clt (xs.take j) N = L at *
            generalize ceq (xs.take j) N = Q at *
            generalize xs.getD j 0 = y at *
            by_cases h1 : y < N
            · have h2 : (y == N) = false := by rw [beq_eq_false_iff_ne]; omega
              rw [if_pos h1] at EL
              rw [if_neg (by omega)] at EQ
              go_wp2
              go_round
              case rel => exact ⟨j + 1, by omega, by go_num, by rw [EL.out] <;> go_num, by rw [EQ.out] <;> go_num⟩
              case measure => simp [intOf]; omega
            · by_cases h2 : y = N
              · have h3 : (y == N) = true := by rw [beq_iff_eq]; exact h2
                rw [if_neg h1] at EL
                rw [if_pos h2] at EQ
                clear h2
                go_wp2
                go_round
                case rel => exact ⟨j + 1, by omega, by go_num, by rw [EL.out] <;> go_num, by rw [EQ.out] <;> go_num⟩
                case measure => simp [intOf]; omega
              · have h3 : (y == N) = false := by rw [beq_eq_false_iff_ne]; exact h2
                rw [if_neg h1] at EL
                rw [if_neg h2] at EQ
                clear h2
                go_wp2
                go_round
                case rel => exact ⟨j + 1, by omega, by go_num, by rw [EL.out] <;> go_num, by rw [EQ.out] <;> go_num⟩
                case measure => simp [intOf]; omega
          · obtain rfl : j = xs.length := by omega
            rw [List.take_length]
            rw [List.take_length] at hjl hjq
            obtain ⟨m1, m2, m3⟩ := HM.out
            generalize clt xs N = L at *
            generalize ceq xs N = Q at *
            have t1 : (Q == 0) = false := by rw [beq_eq_false_iff_ne]; omega
            have t2 : decide (L + Q < s + G) = false := decide_eq_false (by omega)
            have t3 : decide (s + G + M < L + 1) = false := decide_eq_false (by omega)
            have t2' : ¬ L + Q < s + G := by omega
            have t3' : ¬ s + G + M < L + 1 := by omega
            go_wp2
            go_roundw
            case rel => exact ⟨k + 1, by omega, by go_num, by rw [E.out], HBN.out⟩
            case measure => simp [intOf]; omega
      · obtain rfl : k = S.length := by omega
        go_wp2
        go_ret
        exact ⟨rfl, HBD.out⟩
  · obtain ⟨⟨S, ei⟩, hq⟩ : ∃ q, qallC p xs = q := ⟨_, rfl⟩
    rw [hq] at C1 he
    dsimp only at C1 he
    have hei : (ei != 0) = true := by rw [bne_iff_ne]; exact he
    clear hq he
    go_enter Try.func6, Try.ntmps6
    go_wp2_with fail
    refine (CA.out _).mono ?_
    rintro e w1 ⟨rfl, hb⟩
    have HB1 := Lib.hid hb
    clear hb
    go_wp2_with fail
    refine (C1.out _ HB1.out).mono ?_
    rintro e w2 ⟨R, c, rfl, hP, hb⟩
    have HB2 := Lib.hid (HB1.out.trans (hb.mono HB1.out.size))
    clear hb hP
    go_wp2
    go_ret
    exact ⟨rfl, HB2.out⟩
end Go.Proofs.Ytimcbeblmicioaa
