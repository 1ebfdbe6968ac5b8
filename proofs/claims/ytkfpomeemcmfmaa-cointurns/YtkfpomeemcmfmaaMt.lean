/- lotdrawerkeep.CoinTurns: the walk. -/
import Derived.Test.YtkfpomeemcmfmaaC4
namespace Go.Proofs.Ytkfpomeemcmfmaa
open Go.RowKit

/-- One toss more of the tosses. -/
theorem turn_step {a b c m x : Nat} {t : List Bool} (ha : 0 < a) (h : turnF a b (t.drop c) = some (m, x)) :
    (m = 1 ∧ tosG a b (t.drop c) = some (true, x)) ∨ (∃ v m', tosG a b (t.drop c) = some (false, v) ∧ m = m' + 1 ∧ 0 < m' ∧ v ≤ x ∧ turnF a b (t.drop (c + v)) = some (m', x - v)) := by
  cases e : tosG a b (t.drop c) with
  | none => rw [turnF_none e] at h; simp at h
  | some p =>
    obtain ⟨y, v⟩ := p
    cases y with
    | true => rw [turnF_yes e] at h; simp at h; exact .inl ⟨h.1.symm, by rw [h.2]⟩
    | false =>
      right
      rw [turnF_no ha e, List.drop_drop] at h
      cases e2 : turnF a b (t.drop (c + v)) with
      | none => rw [e2] at h; simp [tsh] at h
      | some q =>
        obtain ⟨m', x'⟩ := q
        rw [e2] at h
        simp [tsh] at h
        have := turnF_le ha _ _ (Nat.le_refl _) e2
        exact ⟨v, m', rfl, by omega, this.1, by omega, by rw [← h.2]; simpa using e2⟩

set_option maxRecDepth 100000 in
set_option maxHeartbeats 4000000 in
theorem coinTurns_walk (A : Option Addr) (ca : Nat) (t : List Bool) (n d : Int) (w : World) (ht : TP w A ca t) :
    Calls Try.prog 6 #[.slice A t.length ca, frac n d] w fun e w' => e = .returned (.bool true) ∧ Below w.heap.size w w' := by
  have HC := Lib.hid (frac_cells w n d)
  have hB0 : Below w.heap.size w (w.alloc (.cells #[.int .i64 n, .int .i64 d] 24)) := (Below.refl _ _).alloc (Nat.le_refl _) _
  have hsz : (w.alloc (.cells #[.int .i64 n, .int .i64 d] 24)).heap.size = w.heap.size + 1 := by simp
  have CA := Lib.hid (alive3_any (w.alloc (.cells #[.int .i64 n, .int .i64 d] 24)))
  have hl := ht.short
  have hle := ht.le
  have hcap := ht.cap
  have HT := Lib.hid (ht.later hB0)
  have HB0 := Lib.hid hB0
  clear ht hB0
  unfold frac
  go_enter Try.func6, Try.ntmps6
  go_wp2_with fail
  refine CA.out.mono ?_
  rintro e w1 ⟨rfl, hB1⟩
  generalize w.alloc (.cells #[.int .i64 n, .int .i64 d] 24) = w0 at *
  have a0 := (hB1.cell (p := ⟨w.heap.size, 0, none⟩) (by simp [hsz])).trans HC.out.1
  have a1 := (hB1.cell (p := ⟨w.heap.size, 1, none⟩) (by simp [hsz])).trans HC.out.2
  have HB1 := Lib.hid hB1
  have CU := Lib.hid (turn_any A ca t n d w1 (HT.out.later hB1))
  unfold tup frac at CU
  clear hB1 CA
  have fin : Hid (∀ w', Below w0.heap.size w0 w' → Below w.heap.size w w') := fun w' h => HB0.out.trans (h.mono HB0.out.size)
  have HB2 : Hid (∀ w', Below w1.heap.size w1 w' → Below w0.heap.size w0 w') := fun w' h => HB1.out.trans (h.mono HB1.out.size)
  clear HB1 HB0
  rcases turn_cases t n d with (e1 | e1) | ⟨a, b, k, u, rfl, rfl, hb1, hb2, hab, ha, hF, hk, hkl, hu, e1⟩
  · rw [e1] at CU
    clear e1
    go_wp2_with fail
    refine CU.out.mono ?_
    rintro e w2 ⟨rfl, hB2⟩
    have HB3 := Lib.hid (fin.out w2 (HB2.out w2 hB2))
    clear hB2 CU
    go_wp2
    go_ret
    exact ⟨rfl, HB3.out⟩
  · rw [e1] at CU
    clear e1
    go_wp2_with fail
    refine CU.out.mono ?_
    rintro e w2 ⟨rfl, hB2⟩
    have HB3 := Lib.hid (fin.out w2 (HB2.out w2 hB2))
    clear hB2 CU
    go_wp2
    go_ret
    exact ⟨rfl, HB3.out⟩
  · rw [e1] at CU
    have HF := Lib.hid hF
    clear e1 hF
    have t1 : decide ((u : Int) < 0) = false := decide_eq_false (by omega)
    have t2 : decide ((t.length : Int) < (u : Int)) = false := decide_eq_false (by omega)
    have t3 : decide (t.length < u) = false := decide_eq_false (by omega)
    go_wp2_with fail
    refine CU.out.mono ?_
    rintro e w2 ⟨rfl, hB2⟩
    have HB3 := Lib.hid (HB2.out w2 hB2)
    clear hB2 CU HB2 a0 a1
    go_wp2
    go_loopw [8, 45] (fun cv iv wr => ∃ c i : Nat, i ≤ k ∧ c ≤ u ∧ cv = .int .i64 c ∧ iv = .int .i64 i ∧ (i < k → turnF a b (t.drop c) = some (k - i, u - c)) ∧ (i = k → c = u) ∧ Below w0.heap.size w0 wr) (fun _ iv _ => k - (intOf iv).toNat)
    case atStart => exact ⟨0, 0, Nat.zero_le _, Nat.zero_le _, rfl, rfl, fun _ => by simpa using HF.out, fun h => by omega, HB3.out⟩
    case round =>
      clear HF HB3
      obtain ⟨c, i, hi, hc, rfl, rfl, hT, hE, hBr⟩ := hrel
      by_cases hik : i < k
      · have hF := hT hik
        have hct : c ≤ t.length := by omega
        have HBr := Lib.hid hBr
        have e0 := (hBr.cell (p := ⟨w.heap.size, 0, none⟩) (by simp [hsz])).trans HC.out.1
        have e1 := (hBr.cell (p := ⟨w.heap.size, 1, none⟩) (by simp [hsz])).trans HC.out.2
        obtain ⟨A', hA', hTP⟩ := tail_tp (HT.out.later hBr) (show c ≤ t.length by omega)
        have hlb : w.heap.size < wr.drew.heap.size := by show w.heap.size < wr.heap.size; have := hBr.size; omega
        have d0 : wr.drew.cell? ⟨w.heap.size, 0, none⟩ = some (.int .i64 (a : Int)) := e0
        have d1 : wr.drew.cell? ⟨w.heap.size, 1, none⟩ = some (.int .i64 (b : Int)) := e1
        have D := Lib.hid (And.intro hlb (And.intro d0 d1))
        have CT := Lib.hid (toss_any A' (ca - c) (t.drop c) a b wr.drew (hTP.later (Below.refl _ wr).drew))
        rw [List.length_drop, toss_good hb1 hb2 hab] at CT
        unfold ftup frac at CT
        have HG : Hid (∀ w2, Below wr.drew.heap.size wr.drew w2 → Below w0.heap.size w0 w2) := fun w2 hb => (HBr.out.drew).trans (hb.mono (by show w0.heap.size ≤ wr.heap.size; exact HBr.out.size))
        clear hT hE hBr hTP hlb d0 d1
        rcases turn_step ha hF with ⟨hm, hx⟩ | ⟨v, m', hx, hm, hm', hv, hF'⟩
        · rw [hx] at CT
          unfold cans at CT
          have hv := tosG_le hx
          rw [List.length_drop] at hv
          obtain ⟨v, hve⟩ : ∃ v, u - c = v := ⟨_, rfl⟩
          rw [hve] at CT hv
          have q1 : ((i : Int) == (k : Int) - 1) = true := by rw [beq_iff_eq]; omega
          clear hx hF
          go_wp2_with fail
          go_region_held3 (fun w' => w'.cell? ⟨w.heap.size, 0, none⟩ = some (.int .i64 (a : Int)) ∧ w'.cell? ⟨w.heap.size, 1, none⟩ = some (.int .i64 (b : Int))) (go_keep)
            (first | (go_at_call 9; refine CT.out.mono ?_; rintro e w2 ⟨rfl, hb2⟩; have f0 := (hb2.cell (p := ⟨w.heap.size, 0, none⟩) D.out.1).trans D.out.2.1; have f1 := (hb2.cell (p := ⟨w.heap.size, 1, none⟩) D.out.1).trans D.out.2.2; have HB2 := Lib.hid hb2; clear hb2))
          have HB3 := Lib.hid (HG.out _ HB2.out)
          clear HB2 HG D CT HBr
          go_wp2
          go_roundw
          case rel => exact ⟨c + v, i + 1, by omega, by omega, by go_num, by go_num, fun h => by omega, fun h => by omega, HB3.out⟩
          case measure => simp [intOf]; omega
        · rw [hx] at CT
          unfold cans at CT
          have HF2 := Lib.hid hF'
          have q1 : ((i : Int) == (k : Int) - 1) = false := by rw [beq_eq_false_iff_ne]; omega
          clear hx hF hF'
          go_wp2_with fail
          go_region_held3 (fun w' => w'.cell? ⟨w.heap.size, 0, none⟩ = some (.int .i64 (a : Int)) ∧ w'.cell? ⟨w.heap.size, 1, none⟩ = some (.int .i64 (b : Int))) (go_keep)
            (first | (go_at_call 9; refine CT.out.mono ?_; rintro e w2 ⟨rfl, hb2⟩; have f0 := (hb2.cell (p := ⟨w.heap.size, 0, none⟩) D.out.1).trans D.out.2.1; have f1 := (hb2.cell (p := ⟨w.heap.size, 1, none⟩) D.out.1).trans D.out.2.2; have HB2 := Lib.hid hb2; clear hb2))
          have HB3 := Lib.hid (HG.out _ HB2.out)
          clear HB2 HG D CT HBr
          go_wp2
          go_roundw
          case rel => exact ⟨c + v, i + 1, by omega, by omega, by go_num, by go_num, fun h => by rw [HF2.out]; congr 1; congr 1 <;> omega, fun h => by omega, HB3.out⟩
          case measure => simp [intOf]; omega
      · obtain rfl : i = k := by omega
        obtain rfl := hE rfl
        have HB3 := Lib.hid (fin.out wr hBr)
        clear hT hE hBr
        go_wp2
        go_ret
        exact ⟨rfl, HB3.out⟩
end Go.Proofs.Ytkfpomeemcmfmaa
