/- lotdrawerkeep.TapeEven: the walk. -/
import Derived.Test.YtdfhlmacdgmpmaaEm
import Derived.Deep.QuietTactic
import Derived.BigQuiet
import Derived.WalkSmall
namespace Go.Proofs.Ytdfhlmacdgmpmaa
open Go.RowKit Go.Deep

/-- The counts in memory. -/
def nvs (l : List Nat) : List Value := l.map fun (x : Nat) => Value.int .i64 (x : Int)
theorem nvs_len (l : List Nat) : (nvs l).length = l.length := by simp [nvs]
theorem nvs_at {l : List Nat} {j : Nat} (h : j < l.length) : (nvs l)[j]? = some (.int .i64 ((l.getD j 0 : Nat) : Int)) := by
  simp [nvs, List.getD_eq_getElem?_getD, h]
def ERel (w1 w : World) (n k x : Nat) (wr : World) : Prop := Bs 3 wr w1.heap.size (nvs (runE n k x).1) ∧ Below w1.heap.size w1 wr ∧ Below w.heap.size w wr
theorem erel_start {w1 w : World} (n k : Nat) (hb : Below w.heap.size w w1) : ERel w1 w n k 0 (w1.alloc (.cells (madeCells #[.int .i64 0] n) 3)) := by
  refine ⟨?_, (Below.refl _ _).alloc (Nat.le_refl _) _, hb.alloc hb.size _⟩
  have := Bs.made 3 w1 (.int .i64 0) n
  simpa [nvs, runE] using this
theorem erel_keep {w1 w wr w2 : World} {n k x : Nat} (h : ERel w1 w n k x wr) (hb : Below wr.heap.size wr w2) : ERel w1 w n k x w2 :=
  ⟨h.1.below hb h.1.lt, h.2.1.trans (hb.mono h.2.1.size), h.2.2.trans (hb.mono h.2.2.size)⟩
theorem erel_cell {w1 w wr : World} {n k x d : Nat} (h : ERel w1 w n k x wr) (hd : d < n) : wr.cell? ⟨w1.heap.size, d, none⟩ = some (.int .i64 (((runE n k x).1.getD d 0 : Nat) : Int)) ∧ wr.frozen? ⟨w1.heap.size, d, none⟩ = false ∧ (runE n k x).1.getD d 0 ≤ x := by
  have hl := runE_len n k x
  refine ⟨?_, h.1.frozen d, (runE_le n k x).1 d⟩
  rw [h.1.cell (by rw [nvs_len]; omega), nvs_at (by omega)]
theorem modify_set (l : List Nat) (d : Nat) (hd : d < l.length) : (nvs l).set d (.int .i64 (((l.getD d 0 : Nat) : Int) + 1)) = nvs (l.modify d (· + 1)) := by
  apply List.ext_getElem?
  intro i
  rw [List.getElem?_set]
  unfold nvs
  rw [List.getElem?_map, List.getElem?_map, List.getElem?_modify]
  by_cases e : d = i
  · subst e
    simp [hd, List.getD_eq_getElem?_getD]
  · simp [e]
theorem erel_hit {w1 w wr : World} {n k x d : Nat} (h : ERel w1 w n k x wr) (hb : w.heap.size ≤ w1.heap.size) (hd : d < n) (he : (runE n k (x + 1)) = ((runE n k x).1.modify d (· + 1), (runE n k x).2)) :
    ERel w1 w n k (x + 1) (wr.setCell ⟨w1.heap.size, d, none⟩ (.int .i64 (((runE n k x).1.getD d 0 : Nat) + 1 : Int))) := by
  refine ⟨?_, h.2.1.setCell (Nat.le_refl _) _, h.2.2.setCell hb _⟩
  rw [he]
  have := h.1.set d (.int .i64 (((runE n k x).1.getD d 0 : Nat) + 1 : Int))
  rw [modify_set _ _ (by rw [runE_len]; exact hd)] at this
  exact this
theorem erel_miss {w1 w wr : World} {n k x : Nat} (h : ERel w1 w n k x wr) (he : (runE n k (x + 1)).1 = (runE n k x).1) : ERel w1 w n k (x + 1) wr := by
  unfold ERel; rw [he]; exact h
/-- The three ways of a round. -/
theorem two_cases {n k x : Nat} (hn : 1 ≤ n) (hn2 : n ≤ 30) (hk : Lib.bitLen (n - 1) = k) (hx : x < 2 ^ (k + k)) :
    (bel (bitsOf x (k + k)) (n : Int) = (0, 0, 7) ∧ (runE n k (x + 1)).1 = (runE n k x).1 ∧ (runE n k (x + 1)).2 = (runE n k x).2 + 1) ∨
    ∃ d u : Nat, bel (bitsOf x (k + k)) (n : Int) = ((d : Int), (u : Int), (0 : Int)) ∧ d < n ∧ u ≤ k + k ∧ (runE n k (x + 1)) = ((runE n k x).1.modify d (· + 1), (runE n k x).2) := by
  rw [two_eq hn hn2 hk hx]
  unfold two
  by_cases h1 : x / 2 ^ k < n
  · right
    exact ⟨x / 2 ^ k, k, by rw [if_pos h1], h1, by omega, by rw [runE, if_pos h1]⟩
  · by_cases h2 : x % 2 ^ k < n
    · right
      exact ⟨x % 2 ^ k, k + k, by rw [if_neg h1, if_pos h2], h2, by omega, by rw [runE, if_neg h1, if_pos h2]⟩
    · left
      exact ⟨by rw [if_neg h1, if_neg h2], by rw [runE, if_neg h1, if_neg h2], by rw [runE, if_neg h1, if_neg h2]⟩

theorem pow_facts {k : Nat} (hk : k ≤ 5) : ∃ q : Nat, 2 ^ k = q ∧ 1 ≤ q ∧ q ≤ 32 ∧ (2 : Int) ^ k = (q : Int) ∧ ∃ r : Nat, 2 ^ (k + k) = r ∧ r ≤ 1024 ∧ (2 : Int) ^ (2 * k) = (r : Int) := by
  refine ⟨2 ^ k, rfl, Nat.one_le_two_pow, Nat.pow_le_pow_right (n := 2) (j := 5) (by omega) hk, by simp, 2 ^ (k + k), rfl, Nat.pow_le_pow_right (n := 2) (j := 10) (by omega) (by omega), ?_⟩
  rw [show k + k = 2 * k by omega]; simp

theorem fin_eq (n m : Nat) (hm : m ≤ 32) : ((m : Int) * (m : Int) == wrap64 (((n : Int) + (m : Int) - (n : Int)) * ((n : Int) + (m : Int) - (n : Int)))) = true := by
  have h1 : (n : Int) + (m : Int) - (n : Int) = (m : Int) := by omega
  have h2 : m * m ≤ 32 * 32 := Nat.mul_le_mul hm hm
  have h3 : (m : Int) * (m : Int) = ((m * m : Nat) : Int) := by simp
  rw [h1, h3, beq_iff_eq]
  unfold wrap64
  omega

set_option maxRecDepth 100000 in
set_option maxHeartbeats 2000000 in
theorem tapeEven_good (n : Nat) (w : World) (h1 : 1 ≤ n) (h2 : n ≤ 30) :
    Calls Try.prog 4 #[.int .i64 n] w fun e w' => e = .returned (.bool true) ∧ Below w.heap.size w w' := by
  have CA := Lib.hid (alive2_any w)
  have hmk := Lib.hid (run_make_row' (P := Try.prog) 23 3 (.int .i64 0) 8 Try.underlying23 info_int rfl .i64 .i64 n (by omega) (by omega))
  go_enter Try.func4, Try.ntmps4
  go_wp2_with fail
  refine CA.out.mono ?_
  rintro e w1 ⟨rfl, hB1⟩
  have HB1 := Lib.hid hB1
  clear CA hB1
  go_wp2_with fail
  go_loop [3] (fun kv => ∃ k : Nat, k ≤ 5 ∧ (k = 0 ∨ 2 ^ (k - 1) < n) ∧ kv = .int .i64 k) (fun kv => 6 - (intOf kv).toNat)
  case atStart => exact ⟨0, by omega, .inl rfl, rfl⟩
  case round =>
    obtain ⟨k, hk, hk2, rfl⟩ := hrel
    have HK := Lib.hid hk2
    clear hk2
    obtain ⟨q, eq, hq1, hq2, eq2, r, er, hr, er2⟩ := pow_facts hk
    have EQ := Lib.hid eq
    have ER := Lib.hid er
    clear eq er
    by_cases hlt : q < n
    · have hk5 : k < 5 := by
        rcases Nat.lt_or_ge k 5 with h | h
        · exact h
        · have : k = 5 := by omega
          subst this
          have := EQ.out
          omega
      go_wp2
      go_round
      case rel => exact ⟨k + 1, by omega, .inr (by rw [Nat.add_sub_cancel, EQ.out]; exact hlt), by go_num⟩
      case measure => simp [intOf]; omega
    · have OK := Lib.hid (okE_get h1 h2 hk (by rw [EQ.out]; omega) HK.out)
      have hm := hmk.out
      have HS := Lib.hid (erel_start n k HB1.out)
      clear HK
      go_wp2_with fail
      have e2k : ((k + k : Nat) : Int) = 2 * (k : Int) := by omega
      have E2K := Lib.hid e2k
      have PR := Lib.hid eq2
      have PS := Lib.hid er2
      clear e2k hm eq2 er2
      go_loopw [5, 31] (fun nv xv wr => ∃ x : Nat, x ≤ r ∧ nv = .int .i64 ((runE n k x).2 : Nat) ∧ xv = .int .i64 x ∧ ERel w1 w n k x wr) (fun _ xv _ => r - (intOf xv).toNat)
      case atStart => exact ⟨0, by omega, rfl, rfl, HS.out⟩
      case round =>
        clear HS
        obtain ⟨x, hx, rfl, rfl, hE⟩ := hrel
        have hle := (runE_le n k x).2
        have HE := Lib.hid hE
        clear hE
        by_cases hx2 : x < r
        · have C1 := Lib.hid (bits_any x (k + k) wr (by omega) (by omega))
          rw [E2K.out] at C1
          go_wp2_with fail
          refine C1.out.mono ?_
          rintro e w2 ⟨rfl, hb2, hB2⟩
          have C2 := Lib.hid (below_any _ _ _ (n : Int) _ (bits_tp (by omega) hb2))
          rw [bitsOf_len] at C2
          have HE2 := Lib.hid (erel_keep HE.out hB2)
          clear hb2 hB2 C1 HE
          unfold tup at C2
          rcases two_cases h1 h2 OK.out.1 (by rw [ER.out]; exact hx2) with ⟨hbe, e1, e2⟩ | ⟨d, u, hbe, hd, hu, e1⟩
          · rw [hbe] at C2
            have E1 := Lib.hid (erel_miss HE2.out e1)
            have E2 := Lib.hid e2
            clear hbe e1 e2
            generalize (runE n k x).2 = nn at *
            go_wp2_with fail
            refine C2.out.mono ?_
            rintro e w3 ⟨rfl, rfl⟩
            go_wp2
            go_roundw
            case rel => exact ⟨x + 1, by omega, by rw [E2.out]; go_num, by go_num, E1.out⟩
            case measure => simp [intOf]; omega
          · rw [hbe] at C2
            have E1 := Lib.hid (erel_hit HE2.out HB1.out.size hd e1)
            have E2 : Hid ((runE n k (x + 1)).2 = (runE n k x).2) := by show _ = _; rw [e1]
            obtain ⟨hcl, hfz, hvx⟩ := erel_cell HE2.out hd
            clear hbe e1
            generalize (runE n k x).2 = nn at *
            generalize (runE n k x).1.getD d 0 = cv at *
            go_wp2_with fail
            refine C2.out.mono ?_
            rintro e w3 ⟨rfl, rfl⟩
            go_wp2
            go_roundw
            case rel => exact ⟨x + 1, by omega, by rw [E2.out], by go_num, E1.out⟩
            case measure => simp [intOf]; omega
        · obtain rfl : r = x := by omega
          have OKA := Lib.hid OK.out.2.1
          have OKB := Lib.hid OK.out.2.2
          rw [ER.out] at OKA
          rw [ER.out, EQ.out] at OKB
          clear OK
          go_wp2_with fail
          go_loop [76] (fun iv => ∃ i : Nat, i ≤ n ∧ iv = .int .i64 i) (fun iv => n - (intOf iv).toNat)
          case atStart => exact ⟨0, by omega, rfl⟩
          case round =>
            obtain ⟨i, hi, rfl⟩ := hrel
            by_cases hin : i < n
            · obtain ⟨hc1, _, _⟩ := erel_cell HE.out hin
              obtain ⟨hc2, _, _⟩ := erel_cell HE.out (show 0 < n by omega)
              rw [OKA.out i hin] at hc1
              generalize (runE n k r).1.getD 0 0 = cv at *
              go_wp2
              go_round
              case rel => exact ⟨i + 1, by omega, by go_num⟩
              case measure => simp [intOf]; omega
            · obtain rfl : n = i := by omega
              have hp := PR.out
              obtain ⟨m, rfl⟩ : ∃ m, q = n + m := ⟨q - n, by omega⟩
              rw [show n + m - n = m by omega] at OKB
              rw [OKB.out]
              go_wp2_with fail
              go_quiet (fail)
              go_wp2
              go_ret
              exact ⟨retB (fin_eq n m (by omega)), below_drewN HE.out.2.2 _⟩

set_option maxHeartbeats 400000 in
theorem tapeEven_walk (n : Int) (w : World) :
    Calls Try.prog 4 #[.int .i64 n] w fun e w' => e = .returned (.bool true) ∧ Below w.heap.size w w' := by
  by_cases h : 1 ≤ n ∧ n ≤ 30
  · obtain ⟨m, rfl⟩ : ∃ m : Nat, n = m := ⟨n.toNat, by omega⟩
    exact tapeEven_good m w (by omega) (by omega)
  · have CA := Lib.hid (alive2_any w)
    by_cases h1 : n < 1
    · clear h
      go_enter Try.func4, Try.ntmps4
      go_wp2_with fail
      refine CA.out.mono ?_
      rintro e w1 ⟨rfl, hB1⟩
      have HB1 := Lib.hid hB1
      clear CA hB1
      go_wp2
      go_ret
      exact ⟨rfl, HB1.out⟩
    · have h2 : 30 < n := by omega
      clear h
      go_enter Try.func4, Try.ntmps4
      go_wp2_with fail
      refine CA.out.mono ?_
      rintro e w1 ⟨rfl, hB1⟩
      have HB1 := Lib.hid hB1
      clear CA hB1
      go_wp2
      go_ret
      exact ⟨rfl, HB1.out⟩
end Go.Proofs.Ytdfhlmacdgmpmaa
