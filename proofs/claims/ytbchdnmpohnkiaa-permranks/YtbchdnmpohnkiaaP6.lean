/- perm.At. -/
import Derived.Test.YtbchdnmpohnkiaaP5
namespace Go.Proofs.Ytbchdnmpohnkiaa
open Go.RowKit Go.Deep

theorem Bs.other {T : Nat} {w : World} {g : Nat} {vs : List Value} (h : Bs T w g vs) {a : Addr} (hg : g ≠ a.block) (v : Value) : Bs T (w.setCell a v) g vs := (heap_setCell_other w a g v hg).trans h

def atR (n r : Int) : List Int × Int :=
  if n < 0 ∨ 20 < n ∨ r < 0 then ([], 2) else if r.toNat / fact n.toNat ≠ 0 then ([], 3) else (pick (idn n.toNat) (fd n.toNat r.toNat).1, 0)

/-- What stands in the loop of At. -/
structure ARel (w : World) (g0 g1 N : Nat) (cs : List Nat) (k : Nat) (wr : World) : Prop where
  code : Bs 3 wr g0 (ivs (ints cs))
  out : Bs 3 wr g1 (ivs (pickTo (idn N) cs k))
  un : ∃ cur, Bs 3 wr (g1 + 1) cur ∧ cur.length = N ∧ cur.take (left (idn N) cs k).length = ivs (left (idn N) cs k)
  bel : Below w.heap.size w wr
theorem arel_store {w wr : World} {g0 g1 N k : Nat} {cs : List Nat} (h : ARel w g0 g1 N cs k wr) (h0 : g0 < g1) (h1 : w.heap.size ≤ g1) (hk : k < cs.length) :
    (∃ cur, Bs 3 (wr.setCell ⟨g1, k, none⟩ (.int .i64 ((left (idn N) cs k).getD (cs.getD k 0) 0))) (g1 + 1) cur ∧ cur.length = N ∧ cur.take (left (idn N) cs k).length = ivs (left (idn N) cs k)) ∧
    ∀ w', DPost (g1 + 1) N (left (idn N) cs k) (cs.getD k 0) (wr.setCell ⟨g1, k, none⟩ (.int .i64 ((left (idn N) cs k).getD (cs.getD k 0) 0))) (.returned (.slice (some ⟨g1 + 1, 0, none⟩) (left (idn N) cs (k + 1)).length N)) w' → ARel w g0 g1 N cs (k + 1) w' := by
  obtain ⟨cur, hc1, hc2, hc3⟩ := h.un
  refine ⟨⟨cur, hc1.other (by show g1 + 1 ≠ g1; omega) _, hc2, hc3⟩, ?_⟩
  rintro w' ⟨_, hB, hcur⟩
  have hs := h.out.setI k ((left (idn N) cs k).getD (cs.getD k 0) 0)
  rw [pickTo_set _ _ hk] at hs
  have hb2 := h.bel.setCell (p := ⟨g1, k, none⟩) h1 (.int .i64 ((left (idn N) cs k).getD (cs.getD k 0) 0))
  refine ⟨Bs.below (h.code.other (by show g0 ≠ g1; omega) _) hB (by omega), hs.below hB (by omega), ?_, hb2.trans (hB.mono (by omega))⟩
  rw [left_succ _ _ _ hk]
  exact hcur

set_option maxRecDepth 100000 in
set_option maxHeartbeats 1000000 in
theorem permAt_any (n r : Int) (w : World) (hr : r ≤ 9223372036854775807) :
    Calls Try.prog 18 #[.int .i64 n, .int .i64 r] w (LPost w (atR n r)) := by
  unfold atR
  by_cases hbad : n < 0 ∨ 20 < n ∨ r < 0
  · rw [if_pos hbad]
    by_cases h1 : n < 0
    · clear hbad
      go_enter Try.func18, Try.ntmps18
      go_wp2
      go_ret2
      exact lpost_none (Below.refl _ _)
    · by_cases h2 : 20 < n
      · clear hbad
        go_enter Try.func18, Try.ntmps18
        go_wp2
        go_ret2
        exact lpost_none (Below.refl _ _)
      · have h3 : r < 0 := by omega
        clear hbad
        go_enter Try.func18, Try.ntmps18
        go_wp2
        go_ret2
        exact lpost_none (Below.refl _ _)
  · rw [if_neg hbad]
    obtain ⟨N, rfl⟩ : ∃ N : Nat, n = (N : Int) := ⟨n.toNat, by omega⟩
    obtain ⟨R, rfl⟩ : ∃ R : Nat, r = (R : Int) := ⟨r.toNat, by omega⟩
    have hN : N ≤ 20 := by omega
    have hR : R ≤ 9223372036854775807 := by omega
    clear hbad hr
    rw [Int.toNat_natCast, Int.toNat_natCast]
    have C := Lib.hid (factorial_any N R w hN hR)
    have hrest := fd_rest N R
    have hcl := fd_len N R
    have hdg := fd_dig N R
    by_cases h0 : R / fact N ≠ 0
    · rw [if_pos h0]
      rw [← hrest] at h0
      have h1 := nez_yes h0
      have h2 : (fd N R).2 ≤ 9223372036854775807 := by rw [hrest]; exact Nat.le_trans (Nat.div_le_self _ _) hR
      generalize (fd N R).2 = s at *
      generalize (fd N R).1 = cs at *
      clear hrest hdg h0
      go_enter Try.func18, Try.ntmps18
      go_wp2_with fail
      refine C.out.mono ?_
      rintro e w1 ⟨rfl, hb, hB⟩
      have HB := Lib.hid hB
      clear hb hB C
      go_wp2
      go_ret2
      exact lpost_none HB.out
    · rw [if_neg h0]
      have h1 : (fd N R).2 = 0 := by rw [hrest]; omega
      rw [h1] at C
      generalize (fd N R).1 = cs at *
      have HD := Lib.hid hdg
      clear h1 hrest h0 hdg hR
      have hmk := run_make_row' (P := Try.prog) 22 3 (.int .i64 0) 8 Try.underlying22 info_int rfl .i64 .i64 N (by omega) (by omega)
      go_enter Try.func18, Try.ntmps18
      go_wp2_with fail
      refine C.out.mono ?_
      rintro e w1 ⟨rfl, hb1, hB1⟩
      clear C
      have C2 := Lib.hid (identity_any N (w1.alloc (.cells (madeCells #[.int .i64 0] N) 3)) hN)
      have HZ : Hid (w.heap.size < w1.heap.size) := hb1.lt
      have E : Hid (∀ w3, Bs 3 w3 (w1.heap.size + 1) (ivs (idn N)) → Below (w1.heap.size + 1) (w1.alloc (.cells (madeCells #[.int .i64 0] N) 3)) w3 → ARel w w.heap.size w1.heap.size N cs 0 w3) := fun w3 hb3 hB3 => by
        have hal : Below w1.heap.size w1 (w1.alloc (.cells (madeCells #[.int .i64 0] N) 3)) := (Below.refl _ _).alloc (Nat.le_refl _) _
        have hz := bs_zeros w1 N
        rw [← hcl, ← pickTo_zero (idn N), hcl] at hz
        refine ⟨(hb1.below hal hb1.lt).below hB3 (by have := hb1.lt; omega), hz.below hB3 (by omega), ⟨_, hb3, by rw [ivs_len, idn_len], ?_⟩, hB1.trans ((hal.mono hB1.size).trans (hB3.mono (by have := hB1.size; omega)))⟩
        rw [left_zero, List.take_of_length_le (by rw [ivs_len]; exact Nat.le_refl _)]
      have hsz : (w1.alloc (.cells (madeCells #[.int .i64 0] N) 3)).heap.size = w1.heap.size + 1 := by simp
      rw [hsz] at C2
      clear hb1 hB1 hsz
      go_wp2_with fail
      refine C2.out.mono ?_
      rintro e w3 ⟨rfl, hb3, hB3⟩
      have E := Lib.hid (E.out w3 hb3 hB3)
      clear C2 hb3 hB3 hmk
      have hl0 : (left (idn N) cs 0).length = N := by rw [left_zero]; exact idn_len N
      go_wp2_with fail
      go_loopw [9, 36] (fun uv iv wr => ∃ k : Nat, k ≤ N ∧ iv = .int .i64 k ∧ uv = .slice (some ⟨w1.heap.size + 1, 0, none⟩) (left (idn N) cs k).length N ∧ ARel w w.heap.size w1.heap.size N cs k wr) (fun _ iv _ => N - (intOf iv).toNat)
      case atStart => exact ⟨0, by omega, rfl, by rw [hl0], E.out⟩
      case round =>
        clear E hl0
        obtain ⟨k, hk, rfl, rfl, hR⟩ := hrel
        have HR := Lib.hid hR
        clear hR
        by_cases hlt : k < N
        · have hci := HR.out.code.atI (i := k) (by rw [ints_len, hcl]; exact hlt)
          rw [ints_at] at hci
          have hda := dig_at HD.out (k := k) (by rw [hcl]; exact hlt)
          have hll := left_len (u := idn N) (k := k) HD.out (by rw [idn_len, hcl]) (by omega)
          have hin : cs.getD k 0 < (left (idn N) cs k).length := by omega
          obtain ⟨cur, hb2, hc2, ht2⟩ := HR.out.un
          have hlen2 : (left (idn N) cs k).length ≤ N := by omega
          have hcu : wr.cell? ⟨w1.heap.size + 1, cs.getD k 0, none⟩ = some (.int .i64 ((left (idn N) cs k).getD (cs.getD k 0) 0)) := by
            rw [hb2.cell (by omega), take_at ht2 hin, ivs_at hin]
          have hce := HR.out.out.atI (i := k) (by rw [pickTo_len _ _ (by omega), hcl]; exact hlt)
          have hfe := HR.out.out.frozen k
          obtain ⟨⟨cur2, hb3, hc3, ht3⟩, hst⟩ := arel_store HR.out HZ.out (Nat.le_of_lt HZ.out) (by omega)
          have C := Lib.hid (delete_any (w1.heap.size + 1) N (cs.getD k 0) (left (idn N) cs k) cur2 _ hb3 hc3 ht3 hin hN)
          have HST := Lib.hid hst
          have EL := Lib.hid (left_succ cs (idn N) k (by omega))
          generalize (pickTo (idn N) cs k).getD k 0 = y at *
          generalize (left (idn N) cs k).getD (cs.getD k 0) 0 = z at *
          generalize left (idn N) cs k = u at *
          have hcN : cs.getD k 0 < 20 := by omega
          generalize cs.getD k 0 = c at *
          clear hb2 hc2 ht2 hb3 hc3 ht3 hst hda hll
          go_wp2_with fail
          refine C.out.mono ?_
          rintro e w4 ⟨rfl, hD⟩
          have E := HST.out w4 ⟨by rw [EL.out], hD⟩
          rw [← EL.out]
          have E := Lib.hid E
          clear hD HST C EL
          go_wp2
          go_roundw
          case rel => exact ⟨k + 1, by omega, by go_num, rfl, E.out⟩
          case measure => simp [intOf]; omega
        · obtain rfl : N = k := by omega
          have E := HR.out.out
          rw [← hcl, pickTo_end, hcl] at E
          have E := Lib.hid E
          have HB := Lib.hid HR.out.bel
          clear HR
          go_wp2
          go_ret2
          exact lpost_bs (by rw [pick_len]; omega) E.out HB.out (by rw [pick_len, hcl]) (by rw [pick_len, hcl])
end Go.Proofs.Ytbchdnmpohnkiaa
