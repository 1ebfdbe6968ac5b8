/- lotdrawerkeep.CoinLikely: the walk. -/
import Derived.Test.YtkfpomeemcmfmaaC4
import Derived.Test.YtkfpomeemcmfmaaCs
namespace Go.Proofs.Ytkfpomeemcmfmaa
open Go.RowKit

theorem pow_facts10 {n : Nat} (hn : n ≤ 10) : ∃ q : Nat, 2 ^ n = q ∧ q ≤ 1024 ∧ (2 : Int) ^ n = (q : Int) :=
  ⟨2 ^ n, rfl, Nat.pow_le_pow_right (n := 2) (j := 10) (by omega) hn, by simp⟩
/-- What the loop counts. -/
def LRel (a b n x Y N E : Nat) : Prop := Y = runS (fun i => yesI (tosG a b (bitsOf i n))) x ∧ E = runS (fun i => endI (tosG a b (bitsOf i n))) x ∧ Y + N + E = x
theorem lrel_end {a b n x Y N E : Nat} (h : LRel a b n x Y N E) (e : tosG a b (bitsOf x n) = none) : LRel a b n (x + 1) Y N (E + 1) := by
  obtain ⟨rfl, rfl, h3⟩ := h
  exact ⟨by rw [runS, e]; rfl, by rw [runS, e]; rfl, by omega⟩
theorem lrel_yes {a b n x Y N E u : Nat} (h : LRel a b n x Y N E) (e : tosG a b (bitsOf x n) = some (true, u)) : LRel a b n (x + 1) (Y + 1) N E := by
  obtain ⟨rfl, rfl, h3⟩ := h
  exact ⟨by rw [runS, e]; rfl, by rw [runS, e]; rfl, by omega⟩
theorem lrel_no {a b n x Y N E u : Nat} (h : LRel a b n x Y N E) (e : tosG a b (bitsOf x n) = some (false, u)) : LRel a b n (x + 1) Y (N + 1) E := by
  obtain ⟨rfl, rfl, h3⟩ := h
  exact ⟨by rw [runS, e]; rfl, by rw [runS, e]; rfl, by omega⟩

set_option maxRecDepth 100000 in
set_option maxHeartbeats 4000000 in
theorem coinLikely_good (a b n : Nat) (w : World) (h1 : 1 ≤ b) (h2 : b ≤ 1073741824) (h3 : a ≤ b) (hn : n ≤ 10) :
    Calls Try.prog 4 #[frac a b, .int .i64 n] w fun e w' => e = .returned (.bool true) ∧ Below w.heap.size w w' := by
  have HC := Lib.hid (frac_cells w a b)
  have hB0 : Below w.heap.size w (w.alloc (.cells #[.int .i64 (a : Int), .int .i64 (b : Int)] 24)) := (Below.refl _ _).alloc (Nat.le_refl _) _
  have hsz : (w.alloc (.cells #[.int .i64 (a : Int), .int .i64 (b : Int)] 24)).heap.size = w.heap.size + 1 := by simp
  have CA := Lib.hid (alive3_any (w.alloc (.cells #[.int .i64 (a : Int), .int .i64 (b : Int)] 24)))
  have HB0 := Lib.hid hB0
  clear hB0
  obtain ⟨q, eq, hq, eq2⟩ := pow_facts10 hn
  have EQ := Lib.hid eq
  clear eq
  have d1 : decide ((n : Int) < 0) = false := by simp
  have d2 : decide ((10 : Int) < (n : Int)) = false := by simp; omega
  have d3 : decide ((1073741824 : Int) < (b : Int)) = false := decide_eq_false (by omega)
  unfold frac
  go_enter Try.func4, Try.ntmps4
  go_wp2_with fail
  refine CA.out.mono ?_
  rintro e w1 ⟨rfl, hB1⟩
  generalize w.alloc (.cells #[.int .i64 (a : Int), .int .i64 (b : Int)] 24) = w0 at *
  have c0 := (hB1.cell (p := ⟨w.heap.size, 0, none⟩) (by simp [hsz])).trans HC.out.1
  have c1 := (hB1.cell (p := ⟨w.heap.size, 1, none⟩) (by simp [hsz])).trans HC.out.2
  have HB1 := Lib.hid hB1
  have CR := Lib.hid (right_any a b w1)
  have hr : rgt a b = true := rgt_iff.2 (by omega)
  rw [hr] at CR
  unfold frac at CR
  clear hB1 CA hr
  go_wp2_with fail
  refine CR.out.mono ?_
  rintro e w2 ⟨rfl, hB2⟩
  clear c0 c1
  have hB3 : Below w0.heap.size w0 w2 := HB1.out.trans (hB2.mono HB1.out.size)
  have c1 := (hB3.cell (p := ⟨w.heap.size, 1, none⟩) (by simp [hsz])).trans HC.out.2
  have HB3 := Lib.hid hB3
  clear hB2 hB3 CR HB1
  go_wp2_with fail
  clear d1 d2 d3 c1
  have EQ2 := Lib.hid eq2
  clear eq2
  go_loopw [5, 6, 7, 33] (fun yv nv ev xv wr => ∃ x Y N E : Nat, x ≤ q ∧ yv = .int .i64 Y ∧ nv = .int .i64 N ∧ ev = .int .i64 E ∧ xv = .int .i64 x ∧ LRel a b n x Y N E ∧ Below w0.heap.size w0 wr) (fun _ _ _ xv _ => q - (intOf xv).toNat)
  case atStart => exact ⟨0, 0, 0, 0, by omega, rfl, rfl, rfl, rfl, ⟨rfl, rfl, rfl⟩, HB3.out⟩
  case round =>
    clear HB3
    obtain ⟨x, Y, N, E, hx, rfl, rfl, rfl, rfl, hL, hB⟩ := hrel
    have hsum := hL.2.2
    have HL := Lib.hid hL
    have HB := Lib.hid hB
    have e0 : wr.drew.cell? ⟨w.heap.size, 0, none⟩ = some (.int .i64 (a : Int)) := (hB.cell (p := ⟨w.heap.size, 0, none⟩) (by simp [hsz])).trans HC.out.1
    have e1 : wr.drew.cell? ⟨w.heap.size, 1, none⟩ = some (.int .i64 (b : Int)) := (hB.cell (p := ⟨w.heap.size, 1, none⟩) (by simp [hsz])).trans HC.out.2
    have hlb : w.heap.size < wr.drew.heap.size := by show w.heap.size < wr.heap.size; have := hB.size; omega
    clear hL hB
    by_cases hx2 : x < q
    · have D := Lib.hid (And.intro hlb (And.intro e0 e1))
      have c0 : wr.cell? ⟨w.heap.size, 0, none⟩ = some (.int .i64 (a : Int)) := e0
      have c1 : wr.cell? ⟨w.heap.size, 1, none⟩ = some (.int .i64 (b : Int)) := e1
      have CB := Lib.hid (bits_any x n wr.drew (by omega) (by omega))
      clear e0 e1 hlb
      have CT : Hid (∀ w2, Bs 4 w2 wr.drew.heap.size (bvs (bitsOf x n)) → Calls Try.prog 9 #[.slice (some ⟨wr.drew.heap.size, 0, none⟩) n n, .agg #[.int .i64 (a : Int), .int .i64 (b : Int)]] w2 fun e w' => e = .returned (ftup (cans (tosG a b (bitsOf x n)))) ∧ Below w2.heap.size w2 w') := fun w2 hb => by
        have := toss_any _ _ _ a b _ (bits_tp (by omega) hb)
        rw [bitsOf_len, toss_good h1 (by omega) h3] at this
        exact this
      have HG : Hid (∀ w2, Below wr.drew.heap.size wr.drew w2 → Below w0.heap.size w0 w2) := fun w2 hb => (HB.out.drew).trans (hb.mono (by show w0.heap.size ≤ wr.heap.size; exact HB.out.size))
      cases hx3 : tosG a b (bitsOf x n) with
      | none =>
        have HL2 := Lib.hid (lrel_end HL.out hx3)
        rw [hx3] at CT
        unfold ftup cans at CT
        clear hx3 HL HB
        go_wp2_with fail
        go_region_held3 (fun w' => w'.cell? ⟨w.heap.size, 0, none⟩ = some (.int .i64 (a : Int)) ∧ w'.cell? ⟨w.heap.size, 1, none⟩ = some (.int .i64 (b : Int))) (go_keep)
          (first
            | (go_at_call 18; refine CB.out.mono ?_; rintro e w2 ⟨rfl, hbs, hb2⟩; have f0 := (hb2.cell (p := ⟨w.heap.size, 0, none⟩) D.out.1).trans D.out.2.1; have f1 := (hb2.cell (p := ⟨w.heap.size, 1, none⟩) D.out.1).trans D.out.2.2; have HB2 := Lib.hid hb2; have HBS := Lib.hid hbs; clear hb2 hbs)
            | (go_at_call 9; refine (CT.out _ HBS.out).mono ?_; rintro e w3 ⟨rfl, hb3⟩; have HB3 := Lib.hid (HB2.out.trans (hb3.mono HB2.out.size)); have g0 := (HB3.out.cell (p := ⟨w.heap.size, 0, none⟩) D.out.1).trans D.out.2.1; have g1 := (HB3.out.cell (p := ⟨w.heap.size, 1, none⟩) D.out.1).trans D.out.2.2; clear hb3))
        have HB4 := Lib.hid (HG.out _ HB3.out)
        clear HB2 HB3 HBS D CT CB HG
        go_wp2
        go_roundw
        case rel => exact ⟨x + 1, Y, N, E + 1, by omega, by go_num, by go_num, by go_num, by go_num, HL2.out, HB4.out⟩
        case measure => simp [intOf]; omega
      | some p =>
        obtain ⟨y, u⟩ := p
        have hu := tosG_le hx3
        rw [bitsOf_len] at hu
        have u1 : decide ((u : Int) < 0) = false := decide_eq_false (by omega)
        have u2 : decide ((n : Int) < (u : Int)) = false := decide_eq_false (by omega)
        have u3 : decide (n < u) = false := decide_eq_false (by omega)
        rw [hx3] at CT
        unfold ftup cans at CT
        cases y with
        | true =>
          have HL2 := Lib.hid (lrel_yes HL.out hx3)
          clear hx3 HL HB
          go_wp2_with fail
          go_region_held3 (fun w' => w'.cell? ⟨w.heap.size, 0, none⟩ = some (.int .i64 (a : Int)) ∧ w'.cell? ⟨w.heap.size, 1, none⟩ = some (.int .i64 (b : Int))) (go_keep)
            (first
              | (go_at_call 18; refine CB.out.mono ?_; rintro e w2 ⟨rfl, hbs, hb2⟩; have f0 := (hb2.cell (p := ⟨w.heap.size, 0, none⟩) D.out.1).trans D.out.2.1; have f1 := (hb2.cell (p := ⟨w.heap.size, 1, none⟩) D.out.1).trans D.out.2.2; have HB2 := Lib.hid hb2; have HBS := Lib.hid hbs; clear hb2 hbs)
              | (go_at_call 9; refine (CT.out _ HBS.out).mono ?_; rintro e w3 ⟨rfl, hb3⟩; have HB3 := Lib.hid (HB2.out.trans (hb3.mono HB2.out.size)); have g0 := (HB3.out.cell (p := ⟨w.heap.size, 0, none⟩) D.out.1).trans D.out.2.1; have g1 := (HB3.out.cell (p := ⟨w.heap.size, 1, none⟩) D.out.1).trans D.out.2.2; clear hb3))
          have HB4 := Lib.hid (HG.out _ HB3.out)
          clear HB2 HB3 HBS D CT CB HG
          go_wp2
          go_roundw
          case rel => exact ⟨x + 1, Y + 1, N, E, by omega, by go_num, by go_num, by go_num, by go_num, HL2.out, HB4.out⟩
          case measure => simp [intOf]; omega
        | false =>
          have HL2 := Lib.hid (lrel_no HL.out hx3)
          clear hx3 HL HB
          go_wp2_with fail
          go_region_held3 (fun w' => w'.cell? ⟨w.heap.size, 0, none⟩ = some (.int .i64 (a : Int)) ∧ w'.cell? ⟨w.heap.size, 1, none⟩ = some (.int .i64 (b : Int))) (go_keep)
            (first
              | (go_at_call 18; refine CB.out.mono ?_; rintro e w2 ⟨rfl, hbs, hb2⟩; have f0 := (hb2.cell (p := ⟨w.heap.size, 0, none⟩) D.out.1).trans D.out.2.1; have f1 := (hb2.cell (p := ⟨w.heap.size, 1, none⟩) D.out.1).trans D.out.2.2; have HB2 := Lib.hid hb2; have HBS := Lib.hid hbs; clear hb2 hbs)
              | (go_at_call 9; refine (CT.out _ HBS.out).mono ?_; rintro e w3 ⟨rfl, hb3⟩; have HB3 := Lib.hid (HB2.out.trans (hb3.mono HB2.out.size)); have g0 := (HB3.out.cell (p := ⟨w.heap.size, 0, none⟩) D.out.1).trans D.out.2.1; have g1 := (HB3.out.cell (p := ⟨w.heap.size, 1, none⟩) D.out.1).trans D.out.2.2; clear hb3))
          have HB4 := Lib.hid (HG.out _ HB3.out)
          clear HB2 HB3 HBS D CT CB HG
          go_wp2
          go_roundw
          case rel => exact ⟨x + 1, Y, N + 1, E, by omega, by go_num, by go_num, by go_num, by go_num, HL2.out, HB4.out⟩
          case measure => simp [intOf]; omega
    · obtain rfl : x = q := by omega
      have hY := HL.out.1
      have hE := HL.out.2.1
      rw [← EQ.out, yesG_count (by omega) h3] at hY
      rw [← EQ.out, endG_count (by omega) h3] at hE
      have eq := EQ.out
      rw [eq] at hY hE
      clear EQ eq
      have hM : a * x ≤ 1073741824 * 1024 := Nat.mul_le_mul (by omega) (by omega)
      have m1 : (a : Int) * (x : Int) = ((a * x : Nat) : Int) := by simp
      have m2 : ((a * x : Nat) : Int).tdiv (b : Int) = ((a * x / b : Nat) : Int) := by rw [Int.ofNat_tdiv]
      have m3 : ((a * x : Nat) : Int).tmod (b : Int) = ((a * x % b : Nat) : Int) := by rw [Int.ofNat_tmod]
      have l1 : a * x / b ≤ a * x := Nat.div_le_self _ _
      have l2 : a * x % b < b := Nat.mod_lt _ (by omega)
      have eq2 := EQ2.out
      generalize a * x / b = Y' at *
      generalize a * x % b = L at *
      generalize a * x = M at *
      subst hY
      have c0 : wr.cell? ⟨w.heap.size, 0, none⟩ = some (.int .i64 (a : Int)) := e0
      have c1 : wr.cell? ⟨w.heap.size, 1, none⟩ = some (.int .i64 (b : Int)) := e1
      have HB5 : Hid (Below w.heap.size w wr) := HB0.out.trans (HB.out.mono HB0.out.size)
      clear e0 e1 hlb HL HB EQ2
      have b0 : ((b : Int) == 0) = false := eqz_no (by omega)
      have b1 : ¬ b = 0 := by omega
      have w1 : IntKind.i64.wrap (Y : Int) = (Y : Int) := IntWalk.i64_in _ (by omega)
      have s1 : (Y : Int) + (N : Int) + (E : Int) = (x : Int) := by omega
      have s2 : IntKind.i64.wrap ((Y : Int) + (N : Int)) = (Y : Int) + (N : Int) := IntWalk.i64_in _ (by omega)
      have s3 : IntKind.i64.wrap (x : Int) = (x : Int) := IntWalk.i64_in _ (by omega)
      by_cases hL0 : L = 0
      · rw [if_pos hL0] at hE
        subst hL0 hE
        go_wp2
        go_quiet (fail)
        go_wp2
        go_quiet (fail)
        go_wp2
        go_ret
        exact ⟨retB (by rw [beq_iff_eq]; omega), below_drewN (below_drewN HB5.out _) _⟩
      · rw [if_neg hL0] at hE
        subst hE
        have L1 : decide ((0 : Int) < (L : Int)) = true := decide_eq_true (by omega)
        have L2 : decide (0 < L) = true := decide_eq_true (by omega)
        have L3 : 0 < L := by omega
        go_wp2
        go_quiet (fail)
        go_wp2
        go_quiet (fail)
        go_wp2
        go_ret
        exact ⟨retB (by rw [beq_iff_eq]; omega), below_drewN (below_drewN HB5.out _) _⟩

set_option maxRecDepth 100000 in
set_option maxHeartbeats 4000000 in
theorem coinLikely_bad (a b n : Int) (w : World) (h : rgt a b = false ∨ n < 0 ∨ 10 < n ∨ 1073741824 < b) :
    Calls Try.prog 4 #[frac a b, .int .i64 n] w fun e w' => e = .returned (.bool true) ∧ Below w.heap.size w w' := by
  have HC := Lib.hid (frac_cells w a b)
  have hB0 : Below w.heap.size w (w.alloc (.cells #[.int .i64 a, .int .i64 b] 24)) := (Below.refl _ _).alloc (Nat.le_refl _) _
  have hsz : (w.alloc (.cells #[.int .i64 a, .int .i64 b] 24)).heap.size = w.heap.size + 1 := by simp
  have CA := Lib.hid (alive3_any (w.alloc (.cells #[.int .i64 a, .int .i64 b] 24)))
  have HB0 := Lib.hid hB0
  clear hB0
  unfold frac
  go_enter Try.func4, Try.ntmps4
  go_wp2_with fail
  refine CA.out.mono ?_
  rintro e w1 ⟨rfl, hB1⟩
  generalize w.alloc (.cells #[.int .i64 a, .int .i64 b] 24) = w0 at *
  have c0 := (hB1.cell (p := ⟨w.heap.size, 0, none⟩) (by simp [hsz])).trans HC.out.1
  have c1 := (hB1.cell (p := ⟨w.heap.size, 1, none⟩) (by simp [hsz])).trans HC.out.2
  have HB1 := Lib.hid hB1
  have CR := Lib.hid (right_any a b w1)
  unfold frac at CR
  clear hB1 CA
  go_wp2_with fail
  refine CR.out.mono ?_
  rintro e w2 ⟨rfl, hB2⟩
  clear c0 c1
  have hB3 : Below w0.heap.size w0 w2 := HB1.out.trans (hB2.mono HB1.out.size)
  have c1 := (hB3.cell (p := ⟨w.heap.size, 1, none⟩) (by simp [hsz])).trans HC.out.2
  have HB5 : Hid (Below w.heap.size w w2) := HB0.out.trans (hB3.mono HB0.out.size)
  clear hB2 hB3 CR HB1
  cases hr : rgt a b with
  | false =>
    clear h hr
    go_wp2
    go_ret
    exact ⟨rfl, HB5.out⟩
  | true =>
    rw [hr] at h
    clear hr
    by_cases k1 : n < 0
    · clear h
      go_wp2
      go_ret
      exact ⟨rfl, HB5.out⟩
    · by_cases k2 : 10 < n
      · clear h
        go_wp2
        go_ret
        exact ⟨rfl, HB5.out⟩
      · have k3 : 1073741824 < b := by
          rcases h with h | h | h | h
          · cases h
          · omega
          · omega
          · exact h
        clear h
        go_wp2
        go_ret
        exact ⟨rfl, HB5.out⟩

theorem coinLikely_walk (a b n : Int) (w : World) :
    Calls Try.prog 4 #[frac a b, .int .i64 n] w fun e w' => e = .returned (.bool true) ∧ Below w.heap.size w w' := by
  by_cases h : rgt a b = false ∨ n < 0 ∨ 10 < n ∨ 1073741824 < b
  · exact coinLikely_bad a b n w h
  · simp only [not_or] at h
    have h' := rgt_iff.1 (by simpa using h.1)
    obtain ⟨a, rfl⟩ : ∃ k : Nat, a = k := ⟨a.toNat, by omega⟩
    obtain ⟨b, rfl⟩ : ∃ k : Nat, b = k := ⟨b.toNat, by omega⟩
    obtain ⟨n, rfl⟩ : ∃ k : Nat, n = k := ⟨n.toNat, by omega⟩
    exact coinLikely_good a b n w (by omega) (by omega) (by omega) (by omega)
end Go.Proofs.Ytkfpomeemcmfmaa
