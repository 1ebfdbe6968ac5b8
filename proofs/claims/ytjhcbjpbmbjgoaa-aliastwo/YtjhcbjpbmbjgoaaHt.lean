/- lotdrawerkeep.AliasTwo: the walk. -/
import Derived.Test.YtjhcbjpbmbjgoaaH9
namespace Go.Proofs.Ytjhcbjpbmbjgoaa
open Go.RowKit Go.Deep

set_option maxRecDepth 100000 in
set_option maxHeartbeats 4000000 in
theorem aliasTwo_walk (A : Option Addr) (ca : Nat) (W : List Int) (w : World) (hW : IP w A ca W) :
    Calls Try.prog 6 #[.slice A W.length ca] w fun e w' => e = .returned (.bool true) ∧ Below w.heap.size w w' := by
  have CA := Lib.hid (alive8_any w)
  have hle := hW.le
  have hcap := hW.cap
  have HW := Lib.hid hW
  clear hW
  go_enter Try.func6, Try.ntmps6
  go_wp2_with fail
  refine CA.out.mono ?_
  rintro e w1 ⟨rfl, hb1⟩
  have HB := Lib.hid hb1
  have HW1 := Lib.hid (HW.out.later hb1)
  have CS := Lib.hid (sum_any A ca W w1 (HW.out.later hb1))
  unfold ptup at CS
  clear CA hb1
  rcases sumC_err W with h | h | h
  · have CM := Lib.hid (make_ok A ca W w1 HW1.out h)
    obtain ⟨hR, he, hs0⟩ := sumC_ok h
    rw [he] at CS
    have HR := Lib.hid hR
    have hsl := sumW_le hR.2.2
    have hn4 := hR.2.1
    have hml : Hid ((makeA W).length = W.length) := makeA_len hR.nonneg
    clear h he hs0 hR
    go_wp2_with fail
    refine CS.out.mono ?_
    rintro e w2 ⟨rfl, rfl⟩
    clear CS
    go_wp2_with fail
    refine CM.out.mono ?_
    rintro e w3 ⟨R, cr, rfl, hA, hb3⟩
    have hRle := hA.le
    have hRcap := hA.cap
    have HA := Lib.hid hA
    have HW3 := Lib.hid (HW1.out.later hb3)
    have HB3 := Lib.hid (HB.out.trans (hb3.mono HB.out.size))
    clear hA hb3 CM HB HW HW1
    go_wp2
    go_loopw [37] (fun iv wr => ∃ k : Nat, k ≤ W.length ∧ iv = .int .i64 k ∧ Below w3.heap.size w3 wr) (fun iv _ => W.length - (intOf iv).toNat)
    case atStart => exact ⟨0, by omega, rfl, Below.refl _ _⟩
    case round =>
      obtain ⟨k, hk, rfl, hB⟩ := hrel
      have HBr := Lib.hid hB
      have HBw := Lib.hid (HB3.out.trans (hB.mono HB3.out.size))
      clear hB
      by_cases hlt : k < W.length
      · obtain ⟨b, off, rfl, hb1, hcell⟩ := (HA.out.later HBr.out).il (by rw [hml.out]; omega)
        obtain ⟨c0, c1⟩ := hcell k (by rw [hml.out]; exact hlt)
        obtain ⟨b2, off2, rfl, hb2, hcw⟩ := (HW3.out.later HBr.out).il.at (by omega)
        have cw := hcw k hlt
        obtain ⟨t1, t2, t3, t4, t5, t6⟩ := tabA HR.out hlt
        have n1 : (wr.alloc (.cells #[.int .i64 (lev (makeA W) k), .int .i64 (too (makeA W) k)] 41)).cell? ⟨b2, off2 + k, none⟩ = some (.int .i64 (W.getD k 0)) := (((Below.refl _ wr).alloc (Nat.le_refl _) _).cell (p := ⟨b2, off2 + k, none⟩) hb2).trans cw
        have HBN : Hid (Below w3.heap.size w3 (wr.alloc (.cells #[.int .i64 (lev (makeA W) k), .int .i64 (too (makeA W) k)] 41))) := HBr.out.alloc HBr.out.size _
        clear hcell hcw
        rcases Classical.em (lev (makeA W) k = sumW W) with e1 | e1
        · have e2 := t5 e1
          have f1 : (lev (makeA W) k == sumW W) = true := by rw [beq_iff_eq]; exact e1
          have f2 : (too (makeA W) k != (k : Int)) = false := ineq_no e2
          rcases Classical.em (W.getD k 0 = 0) with e3 | e3
          · have e4 := t6 e3
            have f3 : (W.getD k 0 == 0) = true := by rw [beq_iff_eq]; exact e3
            clear t5 t6 e1 e2 e3
            generalize lev (makeA W) k = x at *
            generalize too (makeA W) k = y at *
            generalize W.getD k 0 = z at *
            generalize sumW W = s at *
            go_wp2
            go_roundw
            case rel => exact ⟨k + 1, by omega, by go_num, HBN.out⟩
            case measure => simp [intOf]; omega
          · have f3 : (W.getD k 0 == 0) = false := by rw [beq_eq_false_iff_ne]; exact e3
            clear t5 t6 e1 e2 e3
            generalize lev (makeA W) k = x at *
            generalize too (makeA W) k = y at *
            generalize W.getD k 0 = z at *
            generalize sumW W = s at *
            go_wp2
            go_roundw
            case rel => exact ⟨k + 1, by omega, by go_num, HBN.out⟩
            case measure => simp [intOf]; omega
        · have f1 : (lev (makeA W) k == sumW W) = false := by rw [beq_eq_false_iff_ne]; exact e1
          rcases Classical.em (W.getD k 0 = 0) with e3 | e3
          · have e4 := t6 e3
            have f3 : (W.getD k 0 == 0) = true := by rw [beq_iff_eq]; exact e3
            clear t5 t6 e1 e3
            generalize lev (makeA W) k = x at *
            generalize too (makeA W) k = y at *
            generalize W.getD k 0 = z at *
            generalize sumW W = s at *
            go_wp2
            go_roundw
            case rel => exact ⟨k + 1, by omega, by go_num, HBN.out⟩
            case measure => simp [intOf]; omega
          · have f3 : (W.getD k 0 == 0) = false := by rw [beq_eq_false_iff_ne]; exact e3
            clear t5 t6 e1 e3
            generalize lev (makeA W) k = x at *
            generalize too (makeA W) k = y at *
            generalize W.getD k 0 = z at *
            generalize sumW W = s at *
            go_wp2
            go_roundw
            case rel => exact ⟨k + 1, by omega, by go_num, HBN.out⟩
            case measure => simp [intOf]; omega
      · obtain rfl : k = W.length := by omega
        go_wp2
        go_ret
        exact ⟨rfl, HBw.out⟩
  all_goals
    have CM := Lib.hid (make_err A ca W w1 HW1.out (congrArg Prod.snd h) (by decide))
    rw [h] at CS
    clear h
    go_wp2_with fail
    refine CS.out.mono ?_
    rintro e w2 ⟨rfl, rfl⟩
    clear CS
    go_wp2_with fail
    refine CM.out.mono ?_
    rintro e w3 ⟨R, cr, rfl, hb3⟩
    have HB3 := Lib.hid (HB.out.trans (hb3.mono HB.out.size))
    clear hb3 CM HB HW HW1
    go_wp2
    go_ret
    exact ⟨rfl, HB3.out⟩
end Go.Proofs.Ytjhcbjpbmbjgoaa
