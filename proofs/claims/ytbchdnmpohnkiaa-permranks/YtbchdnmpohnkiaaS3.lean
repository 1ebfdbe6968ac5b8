/- lotdrawerref.DFact, lotdrawerref.DRank. -/
import Derived.Test.YtbchdnmpohnkiaaOi
import Derived.Test.YtbchdnmpohnkiaaPm
namespace Go.Proofs.Ytbchdnmpohnkiaa
open Go.RowKit Go.Deep

def FactC (n : Nat) : Prop := ∀ w : World, Calls Try.prog 29 #[.int .i64 n] w fun e w' => e = .returned (.int .i64 (fact n : Nat)) ∧ w' = w
theorem dfact_small (n : Nat) (h : n < 2) : FactC n := by
  intro w
  have E : Hid (fact n = 1) := by
    have : n = 0 ∨ n = 1 := by omega
    rcases this with rfl | rfl <;> rfl
  rw [E.out]
  have h2 : (n : Int) < 2 := by omega
  go_enter Try.func29, Try.ntmps29
  go_wp2
  go_ret
  exact ⟨rfl, rfl⟩
set_option maxRecDepth 100000 in
set_option maxHeartbeats 1000000 in
theorem dfact_step (n : Nat) (h : n + 2 ≤ 20) (ih : FactC (n + 1)) : FactC (n + 2) := by
  intro w
  have C := Lib.hid (ih w)
  have hb := fact_small h
  have e1 : (((n + 2 : Nat)) : Int) * ((fact (n + 1) : Nat) : Int) = ((fact (n + 2) : Nat) : Int) := (Int.natCast_mul (n + 2) (fact (n + 1))).symm
  obtain ⟨m, hm⟩ : ∃ m : Nat, m = n + 2 := ⟨_, rfl⟩
  obtain ⟨k, hk⟩ : ∃ k : Nat, k = n + 1 := ⟨_, rfl⟩
  rw [← hm] at e1 hb ⊢
  rw [← hk] at e1 C
  have h2 : ¬ (m : Int) < 2 := by omega
  have h3 : (m : Int) - 1 = (k : Int) := by omega
  have hm20 : m ≤ 20 := by omega
  generalize fact k = a at *
  generalize fact m = b at *
  clear hm hk ih
  go_enter Try.func29, Try.ntmps29
  go_wp2_with fail
  refine C.out.mono ?_
  rintro e w1 ⟨rfl, rfl⟩
  clear C
  go_wp2
  go_ret
  exact ⟨rfl, rfl⟩
theorem dfact_all : ∀ n, n ≤ 20 → FactC n := by
  intro n
  induction n with
  | zero => intro _; exact dfact_small 0 (by omega)
  | succ n ih =>
    intro h
    cases n with
    | zero => exact dfact_small 1 (by omega)
    | succ n => exact dfact_step n h (ih (by omega))
theorem dfact_any (n : Nat) (w : World) (h : n ≤ 20) : Calls Try.prog 29 #[.int .i64 n] w fun e w' => e = .returned (.int .i64 (fact n : Nat)) ∧ w' = w := dfact_all n h w

def RankC (p : List Int) : Prop := ∀ (A : Option Addr) (ca : Nat) (w : World), IP w A ca p → Calls Try.prog 20 #[.slice A p.length ca] w fun e w' => e = .returned (.int .i64 (rank p : Nat)) ∧ Below w.heap.size w w'
theorem drank_nil : RankC [] := by
  intro A ca w hp
  clear hp
  go_enter Try.func20, Try.ntmps20
  go_wp2
  go_ret
  exact ⟨rfl, Below.refl _ _⟩
theorem rank_cons (x : Int) (r : List Int) : rank (x :: r) = cnt x r * fact r.length + rank r := by
  unfold rank
  rw [code, rc, code_len]
set_option maxRecDepth 100000 in
set_option maxHeartbeats 2000000 in
theorem drank_step (x : Int) (r : List Int) (h : (x :: r).length ≤ 20) (ih : RankC r) : RankC (x :: r) := by
  intro A ca w hp
  have hle := hp.le
  have hcap := hp.cap
  have HP := Lib.hid hp
  have HIH := Lib.hid ih
  obtain ⟨A2, hA2, hI2⟩ := tail_ip hp (c := 1) (by simp)
  have hI2' : IP w A2 (ca - 1) r := hI2
  have HI2 := Lib.hid hI2'
  have ER := Lib.hid (rank_cons x r)
  have hlt := Nat.lt_of_lt_of_le (rank_lt (x :: r)) (fact_small h)
  have hce := cnt_le x r
  have HL : Hid (∀ j, cnt x (r.take j) ≤ j) := fun j => Nat.le_trans (cnt_le _ _) (by rw [List.length_take]; omega)
  obtain ⟨b, off, rfl, _, hc⟩ := hp.il.at (by simp)
  have hc0 := Lib.hid (hc 0 (by simp))
  rw [List.getD_cons_zero, Nat.add_zero] at hc0
  simp only [Option.map_some, Addr.add_lit] at hA2
  obtain ⟨n, hn⟩ : ∃ n, n = (x :: r).length := ⟨_, rfl⟩
  rw [← hn] at hle h ⊢
  have hn2 : n = r.length + 1 := by rw [hn]; rfl
  have CF := Lib.hid (fun w => dfact_any r.length w (by omega))
  have hz : ((n : Int) == 0) = false := eqz_no (by omega)
  have h1 : (1 : Int) ≤ (n : Int) := by omega
  have h3 : (n : Int) - 1 = (r.length : Int) := by omega
  have h4 : n - 1 = r.length := by omega
  have HN2 := Lib.hid hn2
  clear hp hc ih hI2 hI2' hn hn2
  go_enter Try.func20, Try.ntmps20
  go_wp2_with fail
  go_loopw [3, 4, 13] (fun nv ov iv wr => ∃ (v : Value) (j : Nat), v = ov ∧ j ≤ r.length ∧ nv = .int .i64 (cnt x (r.take j) : Nat) ∧ iv = .int .i64 j ∧ OI wr w.heap.size v (r.take j) ∧ Below w.heap.size w wr) (fun _ _ iv _ => r.length - (intOf iv).toNat)
  case atStart => exact ⟨_, 0, rfl, by omega, by simp [cnt], rfl, OI.nil _ _, Below.refl _ _⟩
  case round =>
    obtain ⟨v, j, rfl, hj, rfl, rfl, ho, hB⟩ := hrel
    have HO := Lib.hid ho
    have HB := Lib.hid hB
    clear ho hB
    by_cases hlt2 : j < r.length
    · obtain ⟨b2, off2, rfl, _, hc2⟩ := (HI2.out.il.later HB.out).at (by omega)
      have hcj := hc2 j hlt2
      have hcx := (HB.out.cell (block_lt_of_cell hc0.out)).trans hc0.out
      have EN := Lib.hid (cnt_snoc x (r.getD j 0) (r.take j))
      rw [← take_snoc hlt2] at EN
      have ES := Lib.hid (take_snoc hlt2)
      have hil : (r.take j).length = j := by rw [List.length_take]; omega
      have hb := HL.out j
      generalize cnt x (r.take j) = c at *
      obtain ⟨y, hy⟩ : ∃ y, r.getD j 0 = y := ⟨_, rfl⟩
      rw [hy] at hcj EN ES
      clear hc2 hy
      by_cases hyx : y < x
      all_goals
        first | rw [if_pos hyx] at EN | rw [if_neg hyx] at EN
        go_wp2_with (at_builtin; refine wpList_push rfl _ _ rfl w.heap.size v _ y rfl HO.out rfl (by rw [hil]; omega) HB.out.size HB.out ?_)
        intro g cap w2 ho2 hB2 _
        rw [← ES.out] at ho2
        try rw [hil] at ho2
        have HO3 := Lib.hid ho2
        have HB3 := Lib.hid hB2
        clear ho2 hB2 HO HB
        try rw [hil]
        go_wp2
        go_roundw
        case rel => exact ⟨_, j + 1, rfl, by omega, by rw [EN.out]; go_num, by go_num, HO3.out, HB3.out⟩
        case measure => simp [intOf]; omega
    · obtain rfl : r.length = j := by omega
      rw [List.take_length] at HO ⊢
      obtain ⟨R, cr, rfl, hI⟩ := HO.out.ip
      have C2 := Lib.hid (HIH.out R cr wr hI)
      have hr1 : rank r ≤ 2432902008176640000 := by have := ER.out; omega
      have e1 : ((cnt x r : Nat) : Int) * ((fact r.length : Nat) : Int) = ((cnt x r * fact r.length : Nat) : Int) := (Int.natCast_mul _ _).symm
      have hm1 : cnt x r * fact r.length ≤ 2432902008176640000 := by have := ER.out; omega
      rw [ER.out] at hlt
      have HS : Hid (rank (x :: r) = cnt x r * fact r.length + rank r) := ER.out
      generalize cnt x r * fact r.length = m at *
      generalize cnt x r = c at *
      generalize rank r = s at *
      generalize fact r.length = f at *
      clear HO hI ER
      go_wp2_with fail
      refine (CF.out wr).mono ?_
      rintro e w1 ⟨rfl, rfl⟩
      go_wp2_with fail
      refine C2.out.mono ?_
      rintro e w2 ⟨rfl, hB2⟩
      have HB3 := Lib.hid (HB.out.trans (hB2.mono HB.out.size))
      clear C2 hB2
      go_wp2
      go_ret
      exact ⟨retI (by rw [HS.out]; go_num), HB3.out⟩
theorem drank_any : ∀ (p : List Int), p.length ≤ 20 → RankC p := by
  intro p
  induction p with
  | nil => intro _; exact drank_nil
  | cons x r ih => intro h; exact drank_step x r h (ih (by simp at h; omega))
end Go.Proofs.Ytbchdnmpohnkiaa
