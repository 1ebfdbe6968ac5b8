/- perm.Code, perm.Rank. -/
import Derived.Test.YtbchdnmpohnkiaaP1
namespace Go.Proofs.Ytbchdnmpohnkiaa
open Go.RowKit Go.Deep

def codeR (p : List Int) : List Int × Int := if Ok p then (ints (code p), 0) else ([], 1)

set_option maxRecDepth 100000 in
set_option maxHeartbeats 1000000 in
theorem permCode_any (A : Option Addr) (ca : Nat) (p : List Int) (w : World) (hp : IP w A ca p) :
    Calls Try.prog 11 #[.slice A p.length ca] w (LPost w (codeR p)) := by
  have C := Lib.hid (permRight_any A ca p w hp)
  have hle := hp.le
  have hcap := hp.cap
  have HP := Lib.hid hp
  clear hp
  unfold codeR
  by_cases hok : Ok p
  · rw [if_pos hok]
    rw [decide_eq_true hok] at C
    have hlen := hok.len
    clear hok
    have hmk := run_make_row' (P := Try.prog) 22 3 (.int .i64 0) 8 Try.underlying22 info_int rfl .i64 .i64 p.length (by omega) (by omega)
    go_enter Try.func11, Try.ntmps11
    go_wp2_with fail
    refine C.out.mono ?_
    rintro e w1 ⟨rfl, hB1⟩
    have HS : Hid (Bs 3 (w1.alloc (.cells (madeCells #[.int .i64 0] p.length) 3)) w1.heap.size (ivs (codeTo p 0))) := by
      have := Bs.made 3 w1 (.int .i64 0) p.length
      show Bs _ _ _ _
      rw [codeTo_zero]; simpa [ivs] using this
    have HB : Hid (Below w.heap.size w (w1.alloc (.cells (madeCells #[.int .i64 0] p.length) 3))) := hB1.alloc hB1.size _
    have HZ : Hid (w.heap.size ≤ w1.heap.size) := hB1.size
    clear C hB1
    go_wp2_with fail
    go_loopw [17] (fun iv wr => ∃ k : Nat, k ≤ p.length ∧ iv = .int .i64 k ∧ Bs 3 wr w1.heap.size (ivs (codeTo p k)) ∧ Below w.heap.size w wr) (fun iv _ => p.length - (intOf iv).toNat)
    case atStart => exact ⟨0, by omega, rfl, HS.out, HB.out⟩
    case round =>
      clear HS HB hmk
      obtain ⟨k, hk, rfl, hR, hB⟩ := hrel
      have HB := Lib.hid hB
      by_cases hlt : k < p.length
      · rw [codeTo_up hlt] at hR
        have HR := Lib.hid hR
        clear hR
        have HI := Lib.hid (HP.out.later hB)
        obtain ⟨A2, hA2, hI2⟩ := tail_ip HP.out (c := k + 1) (by omega)
        have HI2 := Lib.hid hI2
        have hl2 : (p.drop (k + 1)).length = p.length - (k + 1) := List.length_drop
        obtain ⟨b, off, rfl, _, hcell⟩ := HI.out.il.at (by omega)
        have hci := hcell k hlt
        have E := Lib.hid (codeUp_to hlt)
        have HL : Hid (∀ c, (codeUp p k c).length = p.length) := fun c => codeUp_len hlt
        have HA : Hid (∀ c, (codeUp p k c).getD k 0 = (c : Int)) := fun c => codeUp_at hlt
        have HT : Hid (∀ c d : Nat, (codeUp p k c).set k (d : Int) = codeUp p k d) := fun c d => codeUp_set hlt d
        clear hcell hI2 hB
        obtain ⟨x, hx⟩ : ∃ x, p.getD k 0 = x := ⟨_, rfl⟩
        obtain ⟨l, hl⟩ : ∃ l, p.drop (k + 1) = l := ⟨_, rfl⟩
        rw [hx] at hci E
        rw [hl] at hl2 HI2 E
        clear hx hl
        simp only [Option.map_some, Addr.add_lit] at hA2
        go_wp2_with fail
        go_loopw [27] (fun iv wq => ∃ j : Nat, j ≤ l.length ∧ iv = .int .i64 j ∧ Bs 3 wq w1.heap.size (ivs (codeUp p k (cnt x (l.take j)))) ∧ Below w.heap.size w wq) (fun iv _ => l.length - (intOf iv).toNat)
        case atStart => exact ⟨0, by omega, rfl, by simpa [cnt] using HR.out, HB.out⟩
        case round =>
          clear HR HB
          obtain ⟨j, hj, rfl, hR, hB⟩ := hrel
          have HR := Lib.hid hR
          have HB := Lib.hid hB
          clear hR hB
          by_cases hjl : j < l.length
          · obtain ⟨b2, off2, rfl, _, hcell⟩ := (HI2.out.il.later HB.out).at (by omega)
            have hcj := hcell j hjl
            clear hcell
            have hck := HR.out.atI (i := k) (by rw [HL.out]; exact hlt)
            rw [HA.out] at hck
            have hfk := HR.out.frozen k
            have hcl : cnt x (l.take j) ≤ 20 := by have := cnt_le x (l.take j); simp at this; omega
            have HN := Lib.hid (cnt_snoc x (l.getD j 0) (l.take j))
            rw [← take_snoc hjl] at HN
            have E3 := Lib.hid (HR.out.setI k (((cnt x (l.take j) + 1 : Nat)) : Int))
            rw [HT.out] at E3
            obtain ⟨y, hy⟩ : ∃ y, l.getD j 0 = y := ⟨_, rfl⟩
            rw [hy] at hcj HN
            obtain ⟨c, hc⟩ : ∃ c, cnt x (l.take j) = c := ⟨_, rfl⟩
            rw [hc] at HN E3 hcl hck HR
            have EB := Lib.hid (HB.out.setCell (p := ⟨w1.heap.size, k, none⟩) HZ.out (.int .i64 ((c : Int) + 1)))
            rw [show (((c + 1 : Nat)) : Int) = (c : Int) + 1 from by omega] at E3
            clear hy hc
            by_cases hyx : y < x
            · go_wp2
              go_roundw
              case rel => exact ⟨j + 1, by omega, by go_num, by rw [HN.out, if_pos hyx]; exact E3.out, EB.out⟩
              case measure => simp [intOf]; omega
            · go_wp2
              go_roundw
              case rel => exact ⟨j + 1, by omega, by go_num, by rw [HN.out, if_neg hyx]; exact HR.out, HB.out⟩
              case measure => simp [intOf]; omega
          · obtain rfl : l.length = j := by omega
            have hR := HR.out
            rw [List.take_length, E.out] at hR
            have HR := Lib.hid hR
            clear hR
            go_wp2
            go_roundw
            case rel => exact ⟨k + 1, by omega, by go_num, HR.out, HB.out⟩
            case measure => simp [intOf]; omega
      · obtain rfl : p.length = k := by omega
        rw [codeTo_end] at hR
        have HR := Lib.hid hR
        clear hR hB
        go_wp2
        go_ret2
        exact lpost_bs (by rw [ints_len, code_len]; omega) HR.out HB.out (by rw [ints_len, code_len]) (by rw [ints_len, code_len])
  · rw [if_neg hok]
    rw [decide_eq_false hok] at C
    clear hok
    go_enter Try.func11, Try.ntmps11
    go_wp2_with fail
    refine C.out.mono ?_
    rintro e w1 ⟨rfl, hB1⟩
    have HB := Lib.hid hB1
    clear hB1 C
    go_wp2
    go_ret2
    exact lpost_none HB.out
end Go.Proofs.Ytbchdnmpohnkiaa
