/- combo.Rank, combo.firstFree. -/
import Derived.Test.YtfmmhhekkjgmlaaX1
namespace Go.Proofs.Ytfmmhhekkjgmlaa
open Go.RowKit Go.Deep

def nats (c : List Int) : List Nat := c.map Int.toNat
theorem nats_ints (q : List Nat) : nats (ints q) = q := by
  unfold nats ints
  rw [List.map_map]
  exact List.map_id'' (fun x => by simp) q
theorem low_ints (q : List Nat) (j : Nat) : low (ints q) j = ((if j = 0 then 0 else q.getD (j - 1) 0 + 1 : Nat) : Int) := by
  unfold low
  split
  · rfl
  · rw [ints_at]; omega
theorem rc_ints {N : Nat} {q : List Nat} : RC (N : Int) (ints q) ↔ N ≤ 60 ∧ Inc N q := by
  unfold RC
  rw [ints_len]
  constructor
  · rintro ⟨h1, h2⟩
    refine ⟨by omega, inc_of (fun j hj => ?_) (fun j hj => ?_)⟩
    · have := (h2 (j + 1) hj).1
      rw [low_ints, if_neg (by omega), ints_at, Nat.add_sub_cancel] at this
      omega
    · have := (h2 j hj).2
      rw [ints_at] at this
      omega
  · rintro ⟨h1, h2⟩
    refine ⟨by omega, fun j hj => ?_⟩
    have h3 := h2.at hj
    rw [ints_at, low_ints]
    refine ⟨?_, by omega⟩
    split
    · omega
    · have := h2.lt (show j - 1 < j by omega) hj
      omega
theorem rc_nonneg {n : Int} {c : List Int} (h : RC n c) : ∀ j, j < c.length → 0 ≤ c.getD j 0 := by
  intro j
  induction j with
  | zero => intro hj; have := (h.2 0 hj).1; rw [show low c 0 = 0 from rfl] at this; exact this
  | succ j ih =>
    intro hj
    have h1 := ih (by omega)
    have h2 := (h.2 (j + 1) hj).1
    rw [show low c (j + 1) = c.getD j 0 + 1 from rfl] at h2
    omega
theorem ints_nats {c : List Int} (h : ∀ j, j < c.length → 0 ≤ c.getD j 0) : ints (nats c) = c := by
  refine ext_getD (by simp [ints, nats]) fun k hk => ?_
  have hk2 : k < c.length := by simpa [ints, nats] using hk
  have := h k hk2
  rw [ints_at]
  simp only [nats, List.getD_eq_getElem?_getD, List.getElem?_map, List.getElem?_eq_getElem hk2] at this ⊢
  simp at this ⊢
  omega
/-- A combination, in natural numbers. -/
theorem rc_open {n : Int} {c : List Int} (h : RC n c) : ∃ (N : Nat) (q : List Nat), n = (N : Int) ∧ c = ints q ∧ N ≤ 60 ∧ Inc N q := by
  have h1 := h.1
  refine ⟨n.toNat, nats c, by omega, (ints_nats (rc_nonneg h)).symm, by omega, ?_⟩
  have h2 : RC ((n.toNat : Nat) : Int) (ints (nats c)) := by
    rw [ints_nats (rc_nonneg h), show ((n.toNat : Nat) : Int) = n by omega]; exact h
  exact (rc_ints.1 h2).2
theorem inc_rk {N : Nat} {q : List Nat} (h : Inc N q) (hN : N ≤ 60) : rk q < 118264581564861424 := Nat.lt_of_lt_of_le (rk_lt h) (bc_big hN _)

def rankC (n : Int) (c : List Int) : Int × Int := if RC n c then ((rk (nats c) : Nat), 0) else (0, 1)
theorem rankC_yes {N : Nat} {q : List Nat} (h : N ≤ 60) (h2 : Inc N q) : rankC N (ints q) = (((rk q : Nat) : Int), 0) := by
  unfold rankC; rw [if_pos (rc_ints.2 ⟨h, h2⟩), nats_ints]

set_option maxRecDepth 100000 in
set_option maxHeartbeats 1000000 in
theorem rank_any5 (n : Int) (A : Option Addr) (ca : Nat) (c : List Int) (w : World) (hc : IP w A ca c) :
    Calls Try.prog 16 #[.int .i64 n, .slice A c.length ca] w fun e w' => e = .returned (ptup (rankC n c)) ∧ w' = w := by
  have C := Lib.hid (right_any5 n A ca c w hc)
  by_cases hok : RC n c
  · obtain ⟨N, q, rfl, rfl, hN, hI⟩ := rc_open hok
    rw [decide_eq_true hok] at C
    rw [rankC_yes hN hI]
    have hlen := hI.len_le
    have hcap := hc.cap
    have hle := hc.le
    rw [ints_len] at C hle ⊢
    have hrk := inc_rk hI hN
    have HI := Lib.hid hI
    have HC := Lib.hid hc
    obtain ⟨R, hR⟩ : ∃ R, rk q = R := ⟨_, rfl⟩
    rw [hR] at hrk ⊢
    have HR := Lib.hid hR
    clear hok hI hc hR
    unfold ptup
    go_enter Try.func16, Try.ntmps16
    go_wp2_with fail
    refine C.out.mono ?_
    rintro e w1 ⟨rfl, rfl⟩
    clear C
    go_wp2_with fail
    go_loopw [6, 15] (fun rv iv wr => ∃ k : Nat, k ≤ q.length ∧ rv = .int .i64 (rkTo q k : Nat) ∧ iv = .int .i64 k ∧ wr = w1) (fun _ iv _ => q.length - (intOf iv).toNat)
    case atStart => exact ⟨0, by omega, rfl, rfl, rfl⟩
    case round =>
      obtain ⟨k, hk, rfl, rfl, rfl⟩ := hrel
      by_cases hlt : k < q.length
      · obtain ⟨b, off, rfl, _, hcell⟩ := HC.out.il.at (by rw [ints_len]; omega)
        have hci := hcell k (by rw [ints_len]; omega)
        rw [ints_at] at hci
        have hx := HI.out.at hlt
        have C := Lib.hid (choose_any (q.getD k 0) (k + 1) wr (by omega) (by omega))
        have hs : rkTo q (k + 1) = rkTo q k + bc (q.getD k 0) (k + 1) := rfl
        have hm := rkTo_mono (q := q) (show k + 1 ≤ q.length by omega)
        rw [show rkTo q q.length = R from HR.out] at hm
        have HS := Lib.hid hs
        rw [hs] at hm
        have i1 : (k : Int) < (q.length : Int) := by omega
        generalize q.getD k 0 = x at *
        generalize bc x (k + 1) = y at *
        generalize rkTo q k = z at *
        clear hs hcell
        rw [show ((k + 1 : Nat) : Int) = (k : Int) + 1 by omega] at C
        go_wp2_with fail
        refine C.out.mono ?_
        rintro e w2 ⟨rfl, rfl⟩
        clear C
        go_wp2
        go_roundw
        case rel => exact ⟨k + 1, by omega, by rw [HS.out]; go_num, by go_num, trivial⟩
        case measure => simp [intOf]; omega
      · obtain rfl : q.length = k := by omega
        have e : rkTo q q.length = R := HR.out
        rw [e]
        clear e
        go_wp2
        go_ret2
        exact ⟨rfl, rfl⟩
  · rw [decide_eq_false hok] at C
    unfold rankC
    rw [if_neg hok]
    have hcap := hc.cap
    clear hok hc
    unfold ptup
    go_enter Try.func16, Try.ntmps16
    go_wp2_with fail
    refine C.out.mono ?_
    rintro e w1 ⟨rfl, rfl⟩
    clear C
    go_wp2
    go_ret2
    exact ⟨rfl, rfl⟩
end Go.Proofs.Ytfmmhhekkjgmlaa
