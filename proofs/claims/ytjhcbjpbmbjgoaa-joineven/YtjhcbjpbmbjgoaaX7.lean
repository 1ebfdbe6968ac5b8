/- lotdrawerref.EOf: Pascal's triangle, row by row. -/
import Derived.Test.YtjhcbjpbmbjgoaaXn
import Derived.Test.YtjhcbjpbmbjgoaaIv
import Derived.Deep.OwnRows
namespace Go.Proofs.Ytjhcbjpbmbjgoaa
open Go.RowKit Go.Deep

theorem pnext_snoc (l : List Nat) (x : Nat) : ∀ a, pnext a (l ++ [x]) = (pnext a l).set l.length ((pnext a l).getD l.length 0 + x) ++ [x] := by
  induction l with
  | nil => intro a; simp [pnext]
  | cons y t ih => intro a; simp only [List.cons_append, pnext, ih, List.length_cons, List.set_cons_succ, List.getD_cons_succ]
theorem pnext_last {B : Nat} (l : List Nat) : ∀ a, a ≤ B → (∀ x ∈ l, x ≤ B) → (pnext a l).getD l.length 0 ≤ B := by
  induction l with
  | nil => intro a ha _; simpa [pnext] using ha
  | cons y t ih =>
    intro a _ h
    simp only [pnext, List.length_cons, List.getD_cons_succ]
    exact ih y (h y (by simp)) (fun x hx => h x (by simp [hx]))
/-- What stands in the inner loop: the next row, as far as it is made. -/
def nxTo (r : List Nat) (i : Nat) : List Nat := pnext 0 (r.take i) ++ List.replicate (r.length - i) 0
theorem nxTo_zero (r : List Nat) : nxTo r 0 = List.replicate (r.length + 1) 0 := by
  simp [nxTo, pnext, List.replicate_succ]
theorem nxTo_end (r : List Nat) : nxTo r r.length = pnext 0 r := by simp [nxTo]
theorem nxTo_len {r : List Nat} {i : Nat} (h : i ≤ r.length) : (nxTo r i).length = r.length + 1 := by
  simp [nxTo, pnext_len]; omega
theorem nxTo_a {r : List Nat} {i : Nat} (h : i < r.length) {B : Nat} (hB : ∀ x ∈ r, x ≤ B) : (nxTo r i).getD i 0 ≤ B := by
  have hl : (pnext 0 (r.take i)).length = i + 1 := by rw [pnext_len, List.length_take]; omega
  have e : (nxTo r i).getD i 0 = (pnext 0 (r.take i)).getD (r.take i).length 0 := by
    unfold nxTo
    rw [List.getD_eq_getElem?_getD, List.getElem?_append_left (by omega), ← List.getD_eq_getElem?_getD]
    congr 1; rw [List.length_take]; omega
  rw [e]
  exact pnext_last _ 0 (by omega) (fun x hx => hB x (List.mem_of_mem_take hx))
theorem nxTo_b {r : List Nat} {i : Nat} (h : i < r.length) (v : Nat) : ((nxTo r i).set i v).getD (i + 1) 0 = 0 := by
  have hl : (pnext 0 (r.take i)).length = i + 1 := by rw [pnext_len, List.length_take]; omega
  unfold nxTo
  rw [List.set_append_left _ _ (by omega), List.getD_eq_getElem?_getD, List.getElem?_append_right (by rw [List.length_set]; omega)]
  rw [List.getElem?_replicate]
  split <;> rfl
theorem nxTo_step {r : List Nat} {i : Nat} (h : i < r.length) : ((nxTo r i).set i ((nxTo r i).getD i 0 + r.getD i 0)).set (i + 1) (r.getD i 0) = nxTo r (i + 1) := by
  have hl : (pnext 0 (r.take i)).length = i + 1 := by rw [pnext_len, List.length_take]; omega
  have ht : (r.take i).length = i := by rw [List.length_take]; omega
  have e : (nxTo r i).getD i 0 = (pnext 0 (r.take i)).getD i 0 := by
    unfold nxTo
    rw [List.getD_eq_getElem?_getD, List.getElem?_append_left (by omega), ← List.getD_eq_getElem?_getD]
  rw [e]
  unfold nxTo
  have hts : r.take (i + 1) = r.take i ++ [r.getD i 0] := by
    rw [List.take_succ_eq_append_getElem h]; simp [List.getD_eq_getElem?_getD, h]
  rw [hts, pnext_snoc, ht, List.set_append_left _ _ (by omega), List.set_append_right _ _ (by rw [List.length_set]; omega), List.length_set, hl, Nat.sub_self, show r.length - i = (r.length - (i + 1)) + 1 by omega, List.replicate_succ, List.set_cons_zero]
  simp
theorem prow_big {m : Nat} (h : m ≤ 60) : ∀ x ∈ prow m, x ≤ 118264581564861424 := by
  intro x hx
  obtain ⟨k, hk, e⟩ := List.getElem_of_mem hx
  have := prow_at m k
  rw [List.getD_eq_getElem?_getD, List.getElem?_eq_getElem hk] at this
  simp at this
  rw [← e, this]
  exact bc_big h k
theorem ints_set7 (q : List Nat) (k x : Nat) : (ints q).set k (x : Int) = ints (q.set k x) := by
  unfold ints; rw [List.map_set]

set_option maxRecDepth 100000 in
set_option maxHeartbeats 1000000 in
theorem eOf_any (N K : Nat) (w : World) (hN : N ≤ 60) (hK : K ≤ 9223372036854775807) :
    Calls Try.prog 12 #[.int .i64 N, .int .i64 K] w fun e w' => e = .returned (.int .i64 (bc N K : Nat)) ∧ Below w.heap.size w w' := by
  have HS : Hid (Bs 3 (w.alloc (.cells #[.int .i64 1] 3)) w.heap.size (ivs (ints (prow 0)))) := heap_alloc_new w _
  have HB : Hid (Below w.heap.size w (w.alloc (.cells #[.int .i64 1] 3))) := (Below.refl _ _).alloc (Nat.le_refl _) _
  go_enter Try.func12, Try.ntmps12
  go_wp2_with fail
  go_loopw [5, 11] (fun rv iv wr => ∃ m g : Nat, m ≤ N ∧ rv = .slice (some ⟨g, 0, none⟩) (m + 1) (m + 1) ∧ iv = .int .i64 m ∧ w.heap.size ≤ g ∧ Bs 3 wr g (ivs (ints (prow m))) ∧ Below w.heap.size w wr) (fun _ iv _ => N - (intOf iv).toNat)
  case atStart => exact ⟨0, w.heap.size, by omega, rfl, rfl, Nat.le_refl _, HS.out, HB.out⟩
  case round =>
    clear HS HB
    obtain ⟨m, g, hm, rfl, rfl, hg, hS, hB⟩ := hrel
    have HS := Lib.hid hS
    have HB := Lib.hid hB
    clear hS hB
    by_cases hlt : m < N
    · have hmk := run_make_row' (P := Try.prog) 26 3 (.int .i64 0) 8 Try.underlying26 info_int rfl .i64 .i64 (m + 2) (by omega) (by omega)
      obtain ⟨wa, hwa⟩ : ∃ wa, wa = wr := ⟨_, rfl⟩
      subst hwa
      have hgw := HS.out.lt
      have HZ := Lib.hid (bs_zeros wa (m + 2))
      rw [show ((m + 2 : Nat) : Int) = (m : Int) + 1 + 1 by omega] at hmk
      have HB0 : Hid (Below w.heap.size w (wa.alloc (.cells (madeCells #[.int .i64 0] (m + 2)) 3))) := HB.out.alloc HB.out.size _
      have HS0 : Hid (Bs 3 (wa.alloc (.cells (madeCells #[.int .i64 0] (m + 2)) 3)) g (ivs (ints (prow m)))) := (heap_alloc_old wa _ hgw).trans HS.out
      have hpl := prow_len m
      have HPL := Lib.hid hpl
      have hZ0 : Bs 3 (wa.alloc (.cells (madeCells #[.int .i64 0] (m + 2)) 3)) wa.heap.size (ivs (ints (nxTo (prow m) 0))) := by
        rw [nxTo_zero, hpl]
        have := HZ.out
        simpa [ints] using this
      have HZ := Lib.hid hZ0
      have HBW := HB.out.size
      clear hpl hZ0 HB HS
      go_wp2_with fail
      go_loopw [19] (fun iv wr => ∃ i : Nat, i ≤ m + 1 ∧ iv = .int .i64 i ∧ Bs 3 wr g (ivs (ints (prow m))) ∧ Bs 3 wr wa.heap.size (ivs (ints (nxTo (prow m) i))) ∧ Below w.heap.size w wr) (fun iv _ => m + 1 - (intOf iv).toNat)
      case atStart => exact ⟨0, by omega, rfl, HS0.out, HZ.out, HB0.out⟩
      case round =>
        clear HB0 HS0 HZ hmk
        obtain ⟨i, hi, rfl, hS, hZ, hB⟩ := hrel
        have HB := Lib.hid hB
        have hpl := HPL.out
        by_cases hl : i < m + 1
        · have hc1 := hS.atI (i := i) (by rw [ints_len]; omega)
          have hc2 := hZ.atI (i := i) (by rw [ints_len, nxTo_len (by omega)]; omega)
          have hf2 := hZ.frozen i
          rw [ints_at] at hc1 hc2
          have hZ1 := hZ.setI i ((((nxTo (prow m) i).getD i 0 + (prow m).getD i 0 : Nat)) : Int)
          rw [ints_set7] at hZ1
          have hc3 := hZ1.atI (i := i + 1) (by rw [ints_len, List.length_set, nxTo_len (by omega)]; omega)
          rw [ints_at, nxTo_b (by omega)] at hc3
          have hf3 := hZ1.frozen (i + 1)
          have hZ2 := hZ1.setI (i + 1) (((prow m).getD i 0 : Nat) : Int)
          rw [ints_set7, nxTo_step (by omega)] at hZ2
          have hb1 := nxTo_a (r := prow m) (i := i) (by omega) (prow_big (by omega))
          have hb2 : (prow m).getD i 0 ≤ 118264581564861424 := by rw [prow_at]; exact bc_big (by omega) i
          have hS2 : Bs 3 ((wr.setCell ⟨wa.heap.size, i, none⟩ (.int .i64 (((nxTo (prow m) i).getD i 0 + (prow m).getD i 0 : Nat) : Int))).setCell ⟨wa.heap.size, i + 1, none⟩ (.int .i64 (((prow m).getD i 0 : Nat) : Int))) g (ivs (ints (prow m))) :=
            (heap_setCell_other _ _ g _ (by show g ≠ wa.heap.size; omega)).trans ((heap_setCell_other _ _ g _ (by show g ≠ wa.heap.size; omega)).trans hS)
          have hB2 := (hB.setCell (p := ⟨wa.heap.size, i, none⟩) HBW (.int .i64 (((nxTo (prow m) i).getD i 0 + (prow m).getD i 0 : Nat) : Int))).setCell (p := ⟨wa.heap.size, i + 1, none⟩) HBW (.int .i64 (((prow m).getD i 0 : Nat) : Int))
          generalize (nxTo (prow m) i).getD i 0 = x at *
          generalize (prow m).getD i 0 = y at *
          rw [show ((x + y : Nat) : Int) = (x : Int) + (y : Int) by omega] at hc3 hf3 hZ2 hS2 hB2
          have HZ2 := Lib.hid hZ2
          have HS2 := Lib.hid hS2
          have HB2 := Lib.hid hB2
          have HPL := Lib.hid hpl
          clear hS hZ hB hZ1 hZ2 hS2 hB2 hpl HB
          go_wp2
          go_roundw
          case rel => exact ⟨i + 1, by omega, by go_num, HS2.out, HZ2.out, HB2.out⟩
          case measure => simp [intOf]; omega
        · obtain rfl : i = m + 1 := by omega
          have e : nxTo (prow m) (m + 1) = prow (m + 1) := by
            have := nxTo_end (prow m)
            rw [hpl] at this
            exact this
          rw [e] at hZ
          have HZ := Lib.hid hZ
          clear e hZ hS hB hpl
          go_wp2
          go_roundw
          case rel => exact ⟨m + 1, wa.heap.size, by omega, rfl, by go_num, HBW, HZ.out, HB.out⟩
          case measure => simp [intOf]; omega
    · obtain rfl : N = m := by omega
      by_cases hk : K < N + 1
      · have hc := HS.out.atI (i := K) (by rw [ints_len, prow_len]; omega)
        rw [ints_at, prow_at] at hc
        go_wp2
        go_ret
        exact ⟨rfl, HB.out⟩
      · have E := Lib.hid (bc_gt (show N < K by omega))
        go_wp2
        go_ret
        exact ⟨by rw [E.out]; rfl, HB.out⟩
end Go.Proofs.Ytjhcbjpbmbjgoaa
