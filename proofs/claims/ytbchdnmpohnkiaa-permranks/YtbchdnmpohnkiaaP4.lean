/- perm.Then, perm.Back. -/
import Derived.Test.YtbchdnmpohnkiaaP2
import Derived.Test.YtbchdnmpohnkiaaPn
namespace Go.Proofs.Ytbchdnmpohnkiaa
open Go.RowKit Go.Deep

def backR (p : List Int) : List Int × Int := if Ok p then (backL p, 0) else ([], 1)
set_option maxRecDepth 100000 in
set_option maxHeartbeats 1000000 in
theorem permBack_any (A : Option Addr) (ca : Nat) (p : List Int) (w : World) (hp : IP w A ca p) :
    Calls Try.prog 13 #[.slice A p.length ca] w (LPost w (backR p)) := by
  have C := Lib.hid (permRight_any A ca p w hp)
  have hle := hp.le
  have hcap := hp.cap
  have HP := Lib.hid hp
  clear hp
  unfold backR
  by_cases hok : Ok p
  · rw [if_pos hok]
    rw [decide_eq_true hok] at C
    have hlen := hok.len
    have HO := Lib.hid hok
    clear hok
    have hmk := run_make_row' (P := Try.prog) 22 3 (.int .i64 0) 8 Try.underlying22 info_int rfl .i64 .i64 p.length (by omega) (by omega)
    go_enter Try.func13, Try.ntmps13
    go_wp2_with fail
    refine C.out.mono ?_
    rintro e w1 ⟨rfl, hB1⟩
    have HS := Lib.hid (bs_zeros w1 p.length)
    rw [← invTo_zero] at HS
    have HB : Hid (Below w.heap.size w (w1.alloc (.cells (madeCells #[.int .i64 0] p.length) 3))) := hB1.alloc hB1.size _
    have HZ : Hid (w.heap.size ≤ w1.heap.size) := hB1.size
    clear C hB1
    go_wp2_with fail
    go_loopw [15] (fun iv wr => ∃ k : Nat, k ≤ p.length ∧ iv = .int .i64 k ∧ Bs 3 wr w1.heap.size (ivs (invTo p k)) ∧ Below w.heap.size w wr) (fun iv _ => p.length - (intOf iv).toNat)
    case atStart => exact ⟨0, by omega, rfl, HS.out, HB.out⟩
    case round =>
      clear HS HB hmk
      obtain ⟨k, hk, rfl, hR, hB⟩ := hrel
      have HB := Lib.hid hB
      have HR := Lib.hid hR
      clear hR hB
      by_cases hlt : k < p.length
      · obtain ⟨b, off, rfl, _, hcell⟩ := (HP.out.il.later HB.out).at (by omega)
        have hci := hcell k hlt
        obtain ⟨e, hx, he⟩ := HO.out.at hlt
        rw [hx] at hci
        have hce := HR.out.atI (i := e) (by rw [invTo_len]; exact he)
        have hfe := HR.out.frozen e
        have E := Lib.hid (HR.out.setI e (k : Int))
        rw [invTo_set HO.out hlt hx he] at E
        have EB := Lib.hid (HB.out.setCell (p := ⟨w1.heap.size, e, none⟩) HZ.out (.int .i64 (k : Int)))
        generalize (invTo p k).getD e 0 = y at *
        clear hcell hx
        go_wp2
        go_roundw
        case rel => exact ⟨k + 1, by omega, by go_num, E.out, EB.out⟩
        case measure => simp [intOf]; omega
      · obtain rfl : p.length = k := by omega
        have E := HR.out
        rw [invTo_end HO.out] at E
        have E := Lib.hid E
        clear HR
        go_wp2
        go_ret2
        exact lpost_bs (by rw [backL_len]; omega) E.out HB.out (by rw [backL_len]) (by rw [backL_len])
  · rw [if_neg hok]
    rw [decide_eq_false hok] at C
    clear hok
    go_enter Try.func13, Try.ntmps13
    go_wp2_with fail
    refine C.out.mono ?_
    rintro e w1 ⟨rfl, hB1⟩
    have HB := Lib.hid hB1
    clear hB1 C
    go_wp2
    go_ret2
    exact lpost_none HB.out

def thenR (p q : List Int) : List Int × Int := if Ok p ∧ Ok q ∧ p.length = q.length then (thenL p q, 0) else ([], 1)
set_option maxRecDepth 100000 in
set_option maxHeartbeats 1000000 in
theorem permThen_any (A B : Option Addr) (ca cb : Nat) (p q : List Int) (w : World) (hp : IP w A ca p) (hq : IP w B cb q) :
    Calls Try.prog 12 #[.slice A p.length ca, .slice B q.length cb] w (LPost w (thenR p q)) := by
  have C := Lib.hid (permRight_any A ca p w hp)
  have hle := hp.le
  have hcap := hp.cap
  have hle2 := hq.le
  have hcap2 := hq.cap
  have HP := Lib.hid hp
  have HQ := Lib.hid hq
  clear hp hq
  unfold thenR
  by_cases hok : Ok p
  · rw [decide_eq_true hok] at C
    have hlen := hok.len
    by_cases hoq : Ok q
    · have hlen2 := hoq.len
      by_cases hl : p.length = q.length
      · rw [if_pos ⟨hok, hoq, hl⟩]
        have hmk := run_make_row' (P := Try.prog) 22 3 (.int .i64 0) 8 Try.underlying22 info_int rfl .i64 .i64 p.length (by omega) (by omega)
        have HO := Lib.hid hok
        have hne := neq_no hl
        have HL := Lib.hid hl
        have HQO := Lib.hid hoq
        clear hok hoq hl
        go_enter Try.func12, Try.ntmps12
        go_wp2_with fail
        refine C.out.mono ?_
        rintro e w1 ⟨rfl, hB1⟩
        have C2 := Lib.hid (permRight_any B cb q w1 (HQ.out.later hB1))
        rw [decide_eq_true HQO.out] at C2
        have HB1 := Lib.hid hB1
        clear C hB1
        go_wp2_with fail
        refine C2.out.mono ?_
        rintro e w2 ⟨rfl, hB2⟩
        have HB2 : Hid (Below w.heap.size w w2) := HB1.out.trans (hB2.mono HB1.out.size)
        have HS := Lib.hid (bs_zeros w2 p.length)
        rw [← upTo_zero (thenF p q)] at HS
        have HB : Hid (Below w.heap.size w (w2.alloc (.cells (madeCells #[.int .i64 0] p.length) 3))) := HB2.out.alloc HB2.out.size _
        have HZ : Hid (w.heap.size ≤ w2.heap.size) := HB2.out.size
        clear C2 hB2 HB1 HB2
        go_wp2_with fail
        go_loopw [29] (fun iv wr => ∃ k : Nat, k ≤ p.length ∧ iv = .int .i64 k ∧ Bs 3 wr w2.heap.size (ivs (upTo (thenF p q) p.length k)) ∧ Below w.heap.size w wr) (fun iv _ => p.length - (intOf iv).toNat)
        case atStart => exact ⟨0, by omega, rfl, HS.out, HB.out⟩
        case round =>
          clear HS HB hmk hne
          obtain ⟨k, hk, rfl, hR, hB⟩ := hrel
          have HB := Lib.hid hB
          have HR := Lib.hid hR
          clear hR hB
          by_cases hlt : k < p.length
          · obtain ⟨b, off, rfl, _, hcell⟩ := (HP.out.il.later HB.out).at (by omega)
            obtain ⟨b2, off2, rfl, _, hcell2⟩ := (HQ.out.il.later HB.out).at (by have := HL.out; omega)
            have hci := hcell k hlt
            obtain ⟨e, hx, he⟩ := HO.out.at hlt
            rw [hx] at hci
            have he2 : e < q.length := by have := HL.out; omega
            have hcq := hcell2 e he2
            have hce := HR.out.atI (i := k) (by rw [upTo_len _ hk]; exact hlt)
            have hfe := HR.out.frozen k
            have E := Lib.hid (HR.out.setI k (thenF p q k))
            rw [upTo_set _ hlt] at E
            have EB := Lib.hid (HB.out.setCell (p := ⟨w2.heap.size, k, none⟩) HZ.out (.int .i64 (thenF p q k)))
            have eF : thenF p q k = q.getD e 0 := by unfold thenF; rw [hx]; rfl
            rw [eF] at E EB
            generalize (upTo (thenF p q) p.length k).getD k 0 = y at *
            generalize q.getD e 0 = z at *
            clear hcell hcell2 hx eF
            have i1 : (e : Int) < (q.length : Int) := by omega
            go_wp2
            go_roundw
            case rel => exact ⟨k + 1, by omega, by go_num, E.out, EB.out⟩
            case measure => simp [intOf]; omega
          · obtain rfl : p.length = k := by omega
            have E := HR.out
            rw [upTo_end, show (List.range p.length).map (thenF p q) = thenL p q from rfl] at E
            have E := Lib.hid E
            clear HR
            go_wp2
            go_ret2
            exact lpost_bs (by rw [thenL_len]; omega) E.out HB.out (by rw [thenL_len]) (by rw [thenL_len])
      · rw [if_neg (fun h => hl h.2.2)]
        have hne := neq_yes hl
        have HQO := Lib.hid hoq
        clear hok hoq hl
        go_enter Try.func12, Try.ntmps12
        go_wp2_with fail
        refine C.out.mono ?_
        rintro e w1 ⟨rfl, hB1⟩
        have C2 := Lib.hid (permRight_any B cb q w1 (HQ.out.later hB1))
        rw [decide_eq_true HQO.out] at C2
        have HB1 := Lib.hid hB1
        clear C hB1
        go_wp2_with fail
        refine C2.out.mono ?_
        rintro e w2 ⟨rfl, hB2⟩
        have HB2 : Hid (Below w.heap.size w w2) := HB1.out.trans (hB2.mono HB1.out.size)
        clear C2 hB2 HB1
        go_wp2
        go_ret2
        exact lpost_none HB2.out
    · rw [if_neg (fun h => hoq h.2.1)]
      have HQO := Lib.hid hoq
      clear hok hoq
      go_enter Try.func12, Try.ntmps12
      go_wp2_with fail
      refine C.out.mono ?_
      rintro e w1 ⟨rfl, hB1⟩
      have C2 := Lib.hid (permRight_any B cb q w1 (HQ.out.later hB1))
      rw [decide_eq_false HQO.out] at C2
      have HB1 := Lib.hid hB1
      clear C hB1
      go_wp2_with fail
      refine C2.out.mono ?_
      rintro e w2 ⟨rfl, hB2⟩
      have HB2 : Hid (Below w.heap.size w w2) := HB1.out.trans (hB2.mono HB1.out.size)
      clear C2 hB2 HB1
      go_wp2
      go_ret2
      exact lpost_none HB2.out
  · rw [if_neg (fun h => hok h.1)]
    rw [decide_eq_false hok] at C
    clear hok
    go_enter Try.func12, Try.ntmps12
    go_wp2_with fail
    refine C.out.mono ?_
    rintro e w1 ⟨rfl, hB1⟩
    have HB := Lib.hid hB1
    clear hB1 C
    go_wp2
    go_ret2
    exact lpost_none HB.out
end Go.Proofs.Ytbchdnmpohnkiaa
