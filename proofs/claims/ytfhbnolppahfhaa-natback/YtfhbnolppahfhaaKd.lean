/- NatBack's walk. -/
import Derived.Test.YtfhbnolppahfhaaKb
import Derived.Test.YtfhbnolppahfhaaWb
namespace Go.Proofs.Ytfhbnolppahfhaa
open Go.RowKit Go.Deep

set_option maxRecDepth 100000 in
set_option maxHeartbeats 2000000 in
theorem natBack_bad (a0 a1 a2 : Option Addr) (cap0 cap1 cap2 len2 : Nat) (xs ys : List Nat) (w : World) (ha : Wd w a0 xs) (hb : Wd w a1 ys)
    (hla : xs.length ≤ 9223372036854775807) (hlb : ys.length ≤ 9223372036854775807)
    (e : Int) (he : ansE xs ys (val xs + val ys) = e) (hl : ansL xs ys (val xs + val ys) = []) (h : (e != 0) = true) :
    Calls Try.prog 5 #[.slice a0 xs.length cap0, .slice a1 ys.length cap1, .slice a2 len2 cap2] w fun e w' => e = .returned (.bool true) ∧ Below w.heap.size w w' := by
  have CA := Lib.hid (alive1_any w)
  have HA := Lib.hid ha
  have HB := Lib.hid hb
  have LA := Lib.hid hla
  have LB := Lib.hid hlb
  have E := Lib.hid he
  have L := Lib.hid hl
  clear ha hb he hl hla hlb
  go_enter Try.func5, Try.ntmps5
  go_wp2_with fail
  refine CA.out.mono ?_
  rintro e wa ⟨rfl, hBa⟩
  have HBa := Lib.hid hBa
  clear hBa CA
  have C1 := add_tot a0 a1 cap0 cap1 xs ys wa (HA.out.below HBa.out) (HB.out.below HBa.out) LA.out LB.out
  rw [E.out, L.out, List.length_nil] at C1
  have D1 := Lib.hid C1
  clear C1
  go_wp2_with fail
  refine D1.out.mono ?_
  rintro e w1 ⟨R1, c1, rfl, _, hB1⟩
  have HB1 : Hid (Below w.heap.size w w1) := below_to HBa.out hB1
  clear hB1 D1
  have C2 := add_tot a1 a0 cap1 cap0 ys xs w1 (HB.out.below HB1.out) (HA.out.below HB1.out) LB.out LA.out
  rw [(add_comm_ans xs ys).1, (add_comm_ans xs ys).2, E.out, L.out, List.length_nil] at C2
  have D2 := Lib.hid C2
  clear C2
  go_wp2_with fail
  refine D2.out.mono ?_
  rintro e w2 ⟨R2, c2, rfl, _, hB2⟩
  have HB2 : Hid (Below w.heap.size w w2) := below_to HB1.out hB2
  clear hB2 D2
  go_wp2
  go_ret
  exact ⟨retB (by simp), HB2.out⟩

set_option maxRecDepth 100000 in
set_option maxHeartbeats 4000000 in
theorem natBack_good (a0 a1 a2 : Option Addr) (cap0 cap1 cap2 : Nat) (xs ys zs : List Nat) (w : World) (ha : Wd w a0 xs) (hb : Wd w a1 ys) (hc : Wd w a2 zs) (hlc : zs.length ≤ 9223372036854775807)
    (r1 : rt xs = true) (r2 : rt ys = true) (hs : val xs + val ys < Bw ^ 64) :
    Calls Try.prog 5 #[.slice a0 xs.length cap0, .slice a1 ys.length cap1, .slice a2 zs.length cap2] w fun e w' => e = .returned (.bool true) ∧ Below w.heap.size w w' := by
  have CA := Lib.hid (alive1_any w)
  have hl1 : xs.length ≤ 9223372036854775807 := Nat.le_trans ((rt_iff _).1 r1).1 (by omega)
  have hl2 : ys.length ≤ 9223372036854775807 := Nat.le_trans ((rt_iff _).1 r2).1 (by omega)
  have hlS : (words (val xs + val ys)).length ≤ 9223372036854775807 := Nat.le_trans ((words_len _ 64).2 hs) (by omega)
  have S1 := Lib.hid (fun W (x : Wd W a0 xs) (y : Wd W a1 ys) => add_any a0 a1 cap0 cap1 xs ys W x y r1 r2)
  have S2 := Lib.hid (fun W (x : Wd W a0 xs) (y : Wd W a1 ys) => add_any a1 a0 cap1 cap0 ys xs W y x r2 r1)
  have DF := Lib.hid (fun W R c (x : Wd W R (words (val xs + val ys))) (y : Wd W a1 ys) => sub_any R a1 c cap1 (words (val xs + val ys)) ys W x y (rt_words hs) r2 (by rw [val_words]; omega))
  have S3 := Lib.hid (fun W R c (x : Wd W R (words (val xs + val ys))) (y : Wd W a2 zs) => add_tot R a2 c cap2 (words (val xs + val ys)) zs W x y hlS hlc)
  have S4 := Lib.hid (fun W (x : Wd W a1 ys) (y : Wd W a2 zs) => add_tot a1 a2 cap1 cap2 ys zs W x y hl2 hlc)
  rw [show fitL (val xs + val ys) = words (val xs + val ys) from if_pos hs, show fitE (val xs + val ys) = 0 from if_pos hs] at S1
  rw [Nat.add_comm (val ys), show fitL (val xs + val ys) = words (val xs + val ys) from if_pos hs, show fitE (val xs + val ys) = 0 from if_pos hs] at S2
  rw [val_words, Nat.add_sub_cancel, words_rt ha.1 r1] at DF
  rw [val_words] at S3
  have EQ1 := Lib.hid (fun W R c (x : Wd W R xs) (y : Wd W a0 xs) => equal_any R a0 c cap0 xs xs W x y hl1 hl1)
  have EQ2 := Lib.hid (fun W R c S d (x : Wd W R (words (val xs + val ys))) (y : Wd W S (words (val xs + val ys))) => equal_any R S c d (words (val xs + val ys)) (words (val xs + val ys)) W x y hlS hlS)
  have RT := Lib.hid (fun W R c (x : Wd W R (words (val xs + val ys))) => right_any R c (words (val xs + val ys)) W x hlS)
  rw [show decide (xs = xs) = true from by simp] at EQ1
  rw [show decide (words (val xs + val ys) = words (val xs + val ys)) = true from by simp] at EQ2
  rw [rt_words hs] at RT
  have HA := Lib.hid ha
  have HB := Lib.hid hb
  have HC := Lib.hid hc
  have R1' := Lib.hid r1
  have L1 := Lib.hid hl1
  have HS := Lib.hid hs
  clear ha hb hc r1 r2 hs hl1 hl2 hlS hlc
  go_enter Try.func5, Try.ntmps5
  go_wp2_with fail
  refine CA.out.mono ?_
  rintro e wa ⟨rfl, hBa⟩
  have HBa := Lib.hid hBa
  clear hBa CA
  go_wp2_with fail
  refine (S1.out wa (HA.out.below HBa.out) (HB.out.below HBa.out)).mono ?_
  rintro e w1 ⟨Q1, c1, rfl, hW1, _, hB1⟩
  have HW1 := Lib.hid hW1
  have B1 : Hid (Below w.heap.size w w1) := below_to HBa.out hB1
  clear hW1 hB1
  go_wp2_with fail
  refine (S2.out w1 (HA.out.below B1.out) (HB.out.below B1.out)).mono ?_
  rintro e w2 ⟨Q2, c2, rfl, hW2, _, hB2⟩
  have HW2 := Lib.hid hW2
  have N2 := Lib.hid hB2
  have B2 : Hid (Below w.heap.size w w2) := below_to B1.out hB2
  clear hW2 hB2
  go_wp2_with fail
  refine (DF.out w2 Q1 c1 (HW1.out.below N2.out) (HB.out.below B2.out)).mono ?_
  rintro e w3 ⟨Q3, c3, rfl, hW3, hB3⟩
  have HW3 := Lib.hid hW3
  have N3 := Lib.hid hB3
  have B3 : Hid (Below w.heap.size w w3) := below_to B2.out hB3
  have M13 : Hid (Below w1.heap.size w1 w3) := below_to N2.out hB3
  clear hW3 hB3
  go_wp2_with fail
  refine (S3.out w3 Q1 c1 (HW1.out.below M13.out) (HC.out.below B3.out)).mono ?_
  rintro e w4 ⟨Q4, c4, rfl, hW4, hB4⟩
  have HW4 := Lib.hid hW4
  have N4 := Lib.hid hB4
  have B4 : Hid (Below w.heap.size w w4) := below_to B3.out hB4
  clear hW4 hB4
  go_wp2_with fail
  refine (S4.out w4 (HB.out.below B4.out) (HC.out.below B4.out)).mono ?_
  rintro e w5 ⟨Q5, c5, rfl, hW5, hB5⟩
  have HW5 := Lib.hid hW5
  have N5 := Lib.hid hB5
  have B5 : Hid (Below w.heap.size w w5) := below_to B4.out hB5
  clear hW5 hB5
  have lY : (ansL ys zs (val ys + val zs)).length ≤ 9223372036854775807 := by
    rcases ans_cases ys zs (val ys + val zs) with ⟨_, _, k, e1, _⟩ | ⟨e1, _⟩
    · rw [e1]; exact Nat.le_trans ((words_len _ 64).2 k) (by omega)
    · rw [e1]; simp
  have C6 := Lib.hid (add_tot a0 Q5 cap0 c5 xs (ansL ys zs (val ys + val zs)) w5 (HA.out.below B5.out) HW5.out L1.out lY)
  clear lY
  go_wp2_with fail
  refine C6.out.mono ?_
  rintro e w6 ⟨Q6, c6, rfl, hW6, hB6⟩
  have HW6 := Lib.hid hW6
  have N6 := Lib.hid hB6
  have B6 : Hid (Below w.heap.size w w6) := below_to B5.out hB6
  have M36 : Hid (Below w3.heap.size w3 w6) := below_to N4.out (below_to N5.out hB6)
  clear hW6 hB6 C6
  go_wp2_with fail
  refine (EQ1.out w6 Q3 c3 (HW3.out.below M36.out) (HA.out.below B6.out)).mono ?_
  rintro e w7 ⟨rfl, hB7⟩
  have N7 := Lib.hid hB7
  have B7 : Hid (Below w.heap.size w w7) := below_to B6.out hB7
  have M17 : Hid (Below w1.heap.size w1 w7) := below_to M13.out (below_to M36.out hB7)
  have M27 : Hid (Below w2.heap.size w2 w7) := below_to N3.out (below_to M36.out hB7)
  clear hB7
  go_wp2_with fail
  refine (EQ2.out w7 Q1 c1 Q2 c2 (HW1.out.below M17.out) (HW2.out.below M27.out)).mono ?_
  rintro e w8 ⟨rfl, hB8⟩
  have N8 := Lib.hid hB8
  have B8 : Hid (Below w.heap.size w w8) := below_to B7.out hB8
  have M18 : Hid (Below w1.heap.size w1 w8) := below_to M17.out hB8
  clear hB8
  go_wp2_with fail
  refine (RT.out w8 Q1 c1 (HW1.out.below M18.out)).mono ?_
  rintro e w' ⟨rfl, rfl⟩
  obtain ⟨h, hh⟩ : ∃ h, h = ansE (words (val xs + val ys)) zs (val xs + val ys + val zs) := ⟨_, rfl⟩
  obtain ⟨i, hi⟩ : ∃ i, i = ansE ys zs (val ys + val zs) := ⟨_, rfl⟩
  rw [← hh, ← hi]
  have HH := Lib.hid hh
  have HI := Lib.hid hi
  clear hh hi
  by_cases h1 : h = 0
  · by_cases h2 : i = 0
    · have A3 : rt zs = true ∧ val xs + val ys + val zs < Bw ^ 64 ∧ ansL (words (val xs + val ys)) zs (val xs + val ys + val zs) = words (val xs + val ys + val zs) := by
        rcases ans_cases (words (val xs + val ys)) zs (val xs + val ys + val zs) with ⟨_, r3, k, e1, _⟩ | ⟨_, e2, _⟩
        · exact ⟨r3, k, e1⟩
        · rw [← HH.out, h1] at e2; simp at e2
      have A4 : rt ys = true ∧ val ys + val zs < Bw ^ 64 ∧ ansL ys zs (val ys + val zs) = words (val ys + val zs) := by
        rcases ans_cases ys zs (val ys + val zs) with ⟨r2, _, k, e1, _⟩ | ⟨_, e2, _⟩
        · exact ⟨r2, k, e1⟩
        · rw [← HI.out, h2] at e2; simp at e2
      obtain ⟨_, k3, e3⟩ := A3
      obtain ⟨_, k4, e4⟩ := A4
      have A5 := ans_ok (xs := xs) (ys := words (val ys + val zs)) (n := val xs + val ys + val zs) R1'.out (rt_words k4) k3
      rw [e3] at HW4
      rw [e4, val_words, ← Nat.add_assoc, A5.1] at HW6
      rw [e3, e4, val_words, ← Nat.add_assoc, A5.1, A5.2, h1, h2]
      have lN : (words (val xs + val ys + val zs)).length ≤ 9223372036854775807 := Nat.le_trans ((words_len _ 64).2 k3) (by omega)
      have C9 := equal_any Q4 Q6 c4 c6 (words (val xs + val ys + val zs)) (words (val xs + val ys + val zs)) w8 (HW4.out.below (below_to N5.out (below_to N6.out (below_to N7.out N8.out)))) (HW6.out.below (below_to N7.out N8.out)) lN lN
      rw [show decide (words (val xs + val ys + val zs) = words (val xs + val ys + val zs)) = true from by simp] at C9
      have D9 := Lib.hid C9
      clear C9 lN A5 k3 e3 k4 e4 HH HI h1 h2
      go_wp2_with fail
      refine D9.out.mono ?_
      rintro e w9 ⟨rfl, hB9⟩
      have B9 : Hid (Below w.heap.size w w9) := below_to B8.out hB9
      clear hB9
      go_wp2
      go_ret
      exact ⟨rfl, B9.out⟩
    · have k1 : (h != 0) = false := by simp [h1]
      have k2 : (i != 0) = true := by simp [h2]
      clear h1 h2
      go_wp2
      go_ret
      exact ⟨rfl, B8.out⟩
  · have k1 : (h != 0) = true := by simp [h1]
    clear h1
    go_wp2
    go_ret
    exact ⟨rfl, B8.out⟩
end Go.Proofs.Ytfhbnolppahfhaa
