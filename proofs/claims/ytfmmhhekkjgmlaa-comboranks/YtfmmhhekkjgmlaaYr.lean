/- lotdrawerlaw.ComboRanks: the walk. -/
import Derived.Test.YtfmmhhekkjgmlaaXg
import Derived.Test.YtfmmhhekkjgmlaaX8
import Derived.Test.YtfmmhhekkjgmlaaX9
import Derived.Test.YtfmmhhekkjgmlaaXa
import Derived.Test.YtfmmhhekkjgmlaaT5
namespace Go.Proofs.Ytfmmhhekkjgmlaa
open Go.RowKit Go.Deep

set_option maxRecDepth 100000 in
set_option maxHeartbeats 4000000 in
theorem comboRanks_walk (n k r : Int) (A : Option Addr) (ca : Nat) (c : List Int) (w : World) (hc : IP w A ca c) (hk : k ≤ 9223372036854775807) (hr : r ≤ 9223372036854775807) :
    Calls Try.prog 4 #[.int .i64 n, .int .i64 k, .int .i64 r, .slice A c.length ca] w fun e w' => e = .returned (.bool true) ∧ Below w.heap.size w w' := by
  have C1 := Lib.hid (rank_any5 n A ca c w hc)
  have C2 := Lib.hid (at_any5 n k r w hk hr)
  have C3 := Lib.hid (fun w2 => eAt_any n k r w2 hk hr)
  have hL := atRC_len n k r
  obtain ⟨⟨L, m⟩, hm⟩ : ∃ p, atRC n k r = p := ⟨_, rfl⟩
  rw [hm] at C2 C3 hL
  simp only [] at hL
  have hle := hc.le
  have hcap := hc.cap
  have HC := Lib.hid hc
  have t1 : (m != m) = false := by simp
  have HNX := Lib.hid (fun w2 (h : Below w.heap.size w w2) => next_any5 n A ca c w2 (hc.later h))
  have HRT := Lib.hid (fun w2 (h : Below w.heap.size w w2) => eRight_any n A ca c w2 (hc.later h))
  obtain ⟨⟨a, e1⟩, hrk⟩ : ∃ p, rankC n c = p := ⟨_, rfl⟩
  obtain ⟨⟨X, e2⟩, hnx⟩ : ∃ p, nextC n c = p := ⟨_, rfl⟩
  rw [hrk] at C1
  rw [hnx] at HNX
  unfold ptup at C1
  have HRK := Lib.hid hrk
  have HNE := Lib.hid hnx
  clear hc hm hrk hnx
  go_enter Try.func4, Try.ntmps4
  go_wp2_with fail
  refine C1.out.mono ?_
  rintro e w1 ⟨rfl, rfl⟩
  clear C1
  go_wp2_with fail
  refine C2.out.mono ?_
  rintro e w2 ⟨R2, c2, rfl, hI2, hB2⟩
  have hI2' : IP w2 R2 c2 L := hI2
  have HB := Lib.hid hB2
  have I2 := Lib.hid hI2'
  clear C2 hI2 hI2' hB2
  unfold ltup
  simp only []
  go_wp2_with fail
  refine (C3.out w2).mono ?_
  rintro e w3 ⟨R3, c3, rfl, hI3, hB3⟩
  have hI3' : IP w3 R3 c3 L := hI3
  have HB := Lib.hid (HB.out.trans (hB3.mono HB.out.size))
  have I2 := Lib.hid (I2.out.later hB3)
  have I3 := Lib.hid hI3'
  clear C3 hI3 hI3' hB3
  unfold ltup
  simp only []
  go_wp2_with fail
  refine (HNX.out w3 HB.out).mono ?_
  rintro e w4 ⟨R4, c4, rfl, hI4, hB4⟩
  have hI4' : IP w4 R4 c4 X := hI4
  have HB := Lib.hid (HB.out.trans (hB4.mono HB.out.size))
  have C5 := Lib.hid (iequal_any R2 R3 c2 c3 L L w4 (I2.out.later hB4).il (I3.out.later hB4).il (by omega) (by omega))
  rw [decide_eq_true rfl] at C5
  have I4 := Lib.hid hI4'
  clear HNX hI4 hI4' hB4 I2 I3
  unfold ltup
  simp only []
  go_wp2_with fail
  refine C5.out.mono ?_
  rintro e w5 ⟨rfl, hB5⟩
  have HB := Lib.hid (HB.out.trans (hB5.mono HB.out.size))
  have I4 := Lib.hid (I4.out.later hB5)
  clear C5 hB5
  by_cases hok : RC n c
  · rw [decide_eq_true hok] at HRT
    go_wp2_with fail
    refine (HRT.out w5 HB.out).mono ?_
    rintro e w6 ⟨rfl, rfl⟩
    clear HRT
    obtain ⟨N, q, hn', hc', hN, hQ⟩ := rc_open hok
    subst hn' hc'
    have h1 := HRK.out
    rw [rankC_yes hN hQ] at h1
    injection h1 with h11 h12
    subst h11 h12
    have h2 := HNE.out
    rw [nextC_at hN hQ] at h2
    have hrk := inc_rk hQ hN
    have hlen := hQ.len_le
    have CR := Lib.hid (fun w2 (h : Below w1.heap.size w1 w2) => erank_any hN q hQ A ca w2 (HC.out.later h))
    have CE := Lib.hid (fun w2 => eAt_any (N : Int) (q.length : Int) ((rk q : Int) + 1) w2 (by omega) (by omega))
    have hX := atRC_len (N : Int) (q.length : Int) ((rk q : Int) + 1)
    rw [h2] at CE hX
    simp only [] at hX
    rw [ints_len]
    have t2 : (((rk q : Nat) : Int) != ((rk q : Nat) : Int)) = false := by simp
    have t3 : (e2 == e2) = true := by simp
    generalize rk q = rq at *
    clear HRK HNE h2 hok hQ
    go_wp2_with fail
    refine (CR.out w6 HB.out).mono ?_
    rintro e w7 ⟨rfl, hB7⟩
    have HB := Lib.hid (HB.out.trans (hB7.mono HB.out.size))
    have I4 := Lib.hid (I4.out.later hB7)
    clear hB7
    go_wp2_with fail
    refine (CR.out w7 HB.out).mono ?_
    rintro e w8 ⟨rfl, hB8⟩
    have HB := Lib.hid (HB.out.trans (hB8.mono HB.out.size))
    have I4 := Lib.hid (I4.out.later hB8)
    clear hB8 CR
    go_wp2_with fail
    refine (CE.out w8).mono ?_
    rintro e w9 ⟨R9, c9, rfl, hI9, hB9⟩
    have hI9' : IP w9 R9 c9 X := hI9
    have HB := Lib.hid (HB.out.trans (hB9.mono HB.out.size))
    have C9 := Lib.hid (iequal_any R4 R9 c4 c9 X X w9 (I4.out.later hB9).il hI9'.il (by omega) (by omega))
    rw [decide_eq_true rfl] at C9
    clear hI9 hI9' hB9 CE I4
    unfold ltup
    simp only []
    go_wp2_with fail
    refine C9.out.mono ?_
    rintro e w10 ⟨rfl, hB10⟩
    have HB := Lib.hid (HB.out.trans (hB10.mono HB.out.size))
    clear C9 hB10
    go_wp2
    go_ret
    exact ⟨rfl, HB.out⟩
  · rw [decide_eq_false hok] at HRT
    go_wp2_with fail
    refine (HRT.out w5 HB.out).mono ?_
    rintro e w6 ⟨rfl, rfl⟩
    clear HRT
    have h1 := HRK.out
    unfold rankC at h1
    rw [if_neg hok] at h1
    injection h1 with h11 h12
    subst h11 h12
    have h2 := HNE.out
    unfold nextC at h2
    rw [if_neg hok] at h2
    injection h2 with h21 h22
    subst h21 h22
    clear HRK HNE hok
    go_wp2
    go_ret
    exact ⟨rfl, HB.out⟩
end Go.Proofs.Ytfmmhhekkjgmlaa
