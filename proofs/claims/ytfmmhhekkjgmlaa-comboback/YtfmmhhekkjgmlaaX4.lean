/- combo.At. -/
import Derived.Test.YtfmmhhekkjgmlaaX1
import Derived.Test.YtfmmhhekkjgmlaaOi
namespace Go.Proofs.Ytfmmhhekkjgmlaa
open Go.RowKit Go.Deep

def atRC (n k r : Int) : List Int × Int :=
  if n < 0 ∨ 60 < n ∨ k < 0 ∨ r < 0 then ([], 2) else if bc n.toNat k.toNat ≤ r.toNat then ([], 3) else (ints (atC n.toNat k.toNat r.toNat), 0)

theorem zer_set {k : Nat} {t : List Nat} (x : Nat) : (List.replicate (k + 1) 0 ++ t).set k x = List.replicate k 0 ++ x :: t := by
  rw [List.replicate_succ', List.append_assoc, List.set_append_right _ _ (by simp)]
  simp
theorem ints_zeros (n : Nat) : ints (List.replicate n 0) = List.replicate n 0 := by simp [ints]
theorem ints_set4 (q : List Nat) (k x : Nat) : (ints q).set k (x : Int) = ints (q.set k x) := by
  unfold ints; rw [List.map_set]

set_option maxRecDepth 100000 in
set_option maxHeartbeats 1000000 in
theorem at_any5 (n k r : Int) (w : World) (hk : k ≤ 9223372036854775807) (hr : r ≤ 9223372036854775807) :
    Calls Try.prog 17 #[.int .i64 n, .int .i64 k, .int .i64 r] w (LPost w (atRC n k r)) := by
  have C := Lib.hid (of_any n k w hk)
  unfold atRC
  unfold ofR at C
  by_cases hbad : n < 0 ∨ 60 < n ∨ k < 0
  · rw [if_pos (by omega)]
    rw [if_pos hbad] at C
    unfold ptup at C
    clear hbad
    go_enter Try.func17, Try.ntmps17
    go_wp2_with fail
    refine C.out.mono ?_
    rintro e w1 ⟨rfl, rfl⟩
    clear C
    go_wp2
    go_ret2
    exact lpost_none (Below.refl _ _)
  · rw [if_neg hbad] at C
    obtain ⟨N, rfl⟩ : ∃ N : Nat, n = (N : Int) := ⟨n.toNat, by omega⟩
    obtain ⟨K, rfl⟩ : ∃ K : Nat, k = (K : Int) := ⟨k.toNat, by omega⟩
    have hN : N ≤ 60 := by omega
    rw [Int.toNat_natCast, Int.toNat_natCast] at *
    by_cases hr0 : r < 0
    · rw [if_pos (by omega)]
      have hbig := bc_big hN K
      generalize bc N K = b at *
      unfold ptup at C
      clear hbad
      go_enter Try.func17, Try.ntmps17
      go_wp2_with fail
      refine C.out.mono ?_
      rintro e w1 ⟨rfl, rfl⟩
      clear C
      go_wp2
      go_ret2
      exact lpost_none (Below.refl _ _)
    · rw [if_neg (by omega)]
      obtain ⟨R, rfl⟩ : ∃ R : Nat, r = (R : Int) := ⟨r.toNat, by omega⟩
      rw [Int.toNat_natCast]
      have hbig := bc_big hN K
      by_cases hge : bc N K ≤ R
      · rw [if_pos hge]
        generalize bc N K = b at *
        unfold ptup at C
        clear hbad hr0
        go_enter Try.func17, Try.ntmps17
        go_wp2_with fail
        refine C.out.mono ?_
        rintro e w1 ⟨rfl, rfl⟩
        clear C
        go_wp2
        go_ret2
        exact lpost_none (Below.refl _ _)
      · rw [if_neg hge]
        have hlt : R < bc N K := by omega
        have hKN := le_of_bc hlt
        have HL := Lib.hid hlt
        obtain ⟨b, hb⟩ : ∃ b, bc N K = b := ⟨_, rfl⟩
        rw [hb] at C hge hbig hlt
        obtain ⟨L, hL⟩ : ∃ L, atC N K R = L := ⟨_, rfl⟩
        have HE := Lib.hid hL
        rw [hL]
        unfold ptup at C
        have hmk := run_make_row' (P := Try.prog) 22 3 (.int .i64 0) 8 Try.underlying22 info_int rfl .i64 .i64 K (by omega) (by omega)
        have HS := Lib.hid (bs_zeros w K)
        have HB : Hid (Below w.heap.size w (w.alloc (.cells (madeCells #[.int .i64 0] K) 3))) := (Below.refl _ _).alloc (Nat.le_refl _) _
        have d1 : decide (b ≤ R) = false := by simp; omega
        have d2 : decide ((b : Int) ≤ (R : Int)) = false := by simp; omega
        have d3 : decide ((R : Int) < 0) = false := by simp
        clear hbad hr0 hb hge hL
        go_enter Try.func17, Try.ntmps17
        go_wp2_with fail
        refine C.out.mono ?_
        rintro e w1 ⟨rfl, rfl⟩
        clear C
        go_wp2_with fail
        go_loopw [1, 2, 11] (fun kv rv nv wr => ∃ (k r m : Nat) (t : List Nat), k ≤ m ∧ m ≤ N ∧ r < bc m k ∧ k + t.length = K ∧ atC m k r ++ t = L ∧ kv = .int .i64 k ∧ rv = .int .i64 r ∧ nv = .int .i64 ((m : Int) - 1) ∧ Bs 3 wr w1.heap.size (ivs (ints (List.replicate k 0 ++ t))) ∧ Below w1.heap.size w1 wr) (fun _ _ nv _ => (intOf nv + 1).toNat)
        case atStart =>
          refine ⟨K, R, N, [], hKN, Nat.le_refl _, HL.out, rfl, by rw [List.append_nil]; exact HE.out, rfl, rfl, rfl, ?_, HB.out⟩
          rw [List.append_nil, ints_zeros]; exact HS.out
        case round =>
          clear HS HB hmk HE HL
          obtain ⟨k, r, m, t, hkm, hmN, hrb, htl, hat, rfl, rfl, rfl, hS, hB⟩ := hrel
          have HS := Lib.hid hS
          have HB := Lib.hid hB
          clear hS hB
          have hrbig := bc_big (show m ≤ 60 by omega) k
          have HR := Lib.hid hrb
          have HA := Lib.hid hat
          have hrr : r < 118264581564861424 := by omega
          clear hrb hat hrbig
          by_cases h0 : 0 < k
          · obtain ⟨j, rfl⟩ : ∃ j, k = j + 1 := ⟨k - 1, by omega⟩
            obtain ⟨M, rfl⟩ : ∃ M, m = M + 1 := ⟨m - 1, by omega⟩
            have e1 : ((M + 1 : Nat) : Int) - 1 = (M : Int) := by omega
            rw [e1]
            have C := Lib.hid (choose_any M (j + 1) wr (by omega) (by omega))
            have hwb := bc_big (show M ≤ 60 by omega) (j + 1)
            have hR2 := HR.out
            rw [bc_succ] at hR2
            by_cases hh : bc M (j + 1) ≤ r
            · have E1 : Hid (r - bc M (j + 1) < bc M j) := by show _ < _; omega
              have E2 : Hid (atC M j (r - bc M (j + 1)) ++ (M :: t) = L) := by
                have := HA.out
                rw [atC_hit hh, List.append_assoc] at this
                exact this
              have hjM : Hid (j ≤ M) := by show _ ≤ _; omega
              have hcl := HS.out.atI (i := j) (by simp [ints]; omega)
              have hfz := HS.out.frozen j
              have E3 := Lib.hid (HS.out.setI j (M : Int))
              rw [ints_set4, zer_set] at E3
              have E4 : Hid (Below w1.heap.size w1 (wr.setCell ⟨w1.heap.size, j, none⟩ (.int .i64 (M : Int)))) := HB.out.setCell (Nat.le_refl _) _
              obtain ⟨d, hd⟩ : ∃ d, r - bc M (j + 1) = d := ⟨_, rfl⟩
              rw [hd] at E1 E2
              have hd2 : (r : Int) - (bc M (j + 1) : Nat) = (d : Int) := by omega
              generalize (ints (List.replicate (j + 1) 0 ++ t)).getD j 0 = y at *
              generalize bc M (j + 1) = z at *
              clear hR2 hd HA HR HS HB e1
              have e2 : ((j + 1 : Nat) : Int) - 1 = (j : Int) := by omega
              go_wp2_with fail
              refine C.out.mono ?_
              rintro e w2 ⟨rfl, rfl⟩
              clear C
              go_wp2
              go_roundw
              case rel => exact ⟨j, d, M, M :: t, hjM.out, by omega, E1.out, by simp; omega, E2.out, by go_num, by go_num, by go_num, E3.out, E4.out⟩
              case measure => simp [intOf]
            · have E1 : Hid (r < bc M (j + 1)) := by show _ < _; omega
              have E2 : Hid (atC M (j + 1) r ++ t = L) := by
                have := HA.out
                rw [atC_miss E1.out] at this
                exact this
              have hjM : Hid (j + 1 ≤ M) := le_of_bc E1.out
              generalize bc M (j + 1) = z at C hh hwb
              clear hR2 HA HR e1
              go_wp2_with fail
              refine C.out.mono ?_
              rintro e w2 ⟨rfl, rfl⟩
              clear C
              go_wp2
              go_roundw
              case rel => exact ⟨j + 1, r, M, t, hjM.out, by omega, E1.out, htl, E2.out, by go_num, by go_num, by go_num, HS.out, HB.out⟩
              case measure => simp [intOf]
          · obtain rfl : k = 0 := by omega
            have E := HA.out
            rw [atC_zero, List.nil_append] at E
            subst E
            have hS : Bs 3 wr w1.heap.size (ivs (ints t)) := HS.out
            have HS := Lib.hid hS
            obtain rfl : t.length = K := by omega
            clear HA HR hS
            go_wp2
            go_ret2
            exact lpost_bs (by rw [ints_len]; omega) HS.out HB.out (ints_len t).symm (ints_len t).symm
end Go.Proofs.Ytfmmhhekkjgmlaa
