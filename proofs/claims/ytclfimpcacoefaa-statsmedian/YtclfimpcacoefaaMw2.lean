/- StatsMedian's walk. -/
import Derived.Test.YtclfimpcacoefaaMo11
namespace Go.Proofs.Ytclfimpcacoefaa
open Go.RowKit Go.Deep

theorem fsum_succ (f : Int → Int) {l : List Int} {k : Nat} (h : k < l.length) : fsum f (l.take (k + 1)) = fsum f (l.take k) + f (l.getD k 0) := by
  rw [take_snoc h, fsum_app]; simp [fsum]
theorem fsum_bd {f : Int → Int} {B : Int} : ∀ {l : List Int}, (∀ y ∈ l, 0 ≤ f y ∧ f y ≤ B) → 0 ≤ fsum f l ∧ fsum f l ≤ l.length * B
  | [], _ => by simp [fsum]
  | x :: l, h => by
    have ih := fsum_bd (f := f) (B := B) (l := l) (fun y hy => h y (List.mem_cons_of_mem _ hy))
    have hx := h x (List.mem_cons_self ..)
    simp only [fsum, List.length_cons, Int.natCast_add, Int.natCast_one, Int.add_mul, Int.one_mul]
    omega
theorem near_bd {m y : Int} (h1 : -2097152 ≤ m ∧ m ≤ 2097152) (h2 : -1048576 ≤ y ∧ y ≤ 1048576) : 0 ≤ near2 m y ∧ near2 m y ≤ 4398046511104 := by
  unfold near2; omega
theorem far_bd {x y : Int} (h1 : -1099511627776 ≤ x ∧ x ≤ 1099511627776) (h2 : -1048576 ≤ y ∧ y ≤ 1048576) : 0 ≤ far2 x y ∧ far2 x y ≤ 4398046511104 := by
  unfold far2; omega
theorem smed_bd {l : List Int} (h : okl l) : -2097152 ≤ smed (imsort l) ∧ smed (imsort l) ≤ 2097152 := by
  have key : ∀ i, -1048576 ≤ (imsort l).getD i 0 ∧ (imsort l).getD i 0 ≤ 1048576 := fun i => by
    by_cases hi : i < (imsort l).length
    · have hm : (imsort l).getD i 0 ∈ imsort l := by
        rw [List.getD_eq_getElem?_getD, List.getElem?_eq_getElem hi]; exact List.getElem_mem _
      exact h.2 _ ((imsort_perm l).mem_iff.1 hm)
    · rw [List.getD_eq_getElem?_getD, List.getElem?_eq_none (by omega)]; simp
  have h1 := key (((imsort l).length - 1) / 2)
  have h2 := key ((imsort l).length / 2)
  unfold smed; omega
theorem fsum_take_bd {f : Int → Int} {l : List Int} (h : okl l) (hf : ∀ y, -1048576 ≤ y ∧ y ≤ 1048576 → 0 ≤ f y ∧ f y ≤ 4398046511104) (k : Nat) : 0 ≤ fsum f (l.take k) ∧ fsum f (l.take k) ≤ 1759218604441600 := by
  have h1 := fsum_bd (f := f) (B := 4398046511104) (l := l.take k) (fun y hy => hf y (h.2 y (List.mem_of_mem_take hy)))
  have h2 := h.1
  rw [List.length_take] at h1
  omega

set_option maxRecDepth 100000 in
set_option maxHeartbeats 4000000 in
theorem statsMedian_any (A : Option Addr) (ca : Nat) (l : List Int) (x : Int) (w : World) (hl : IP w A ca l) (hx1 : -9223372036854775808 ≤ x) (hx2 : x ≤ 9223372036854775807) :
    Calls Try.prog 9 #[.slice A l.length ca, .int .i64 x] w fun e w' => e = .returned (.bool true) ∧ Below w.heap.size w w' := by
  have CA := Lib.hid (alive16_any w)
  have HL := Lib.hid hl
  have hle := hl.le
  have hcap := hl.cap
  clear hl
  go_enter Try.func9, Try.ntmps9
  go_wp2_with fail
  refine CA.out.mono ?_
  rintro e w1 ⟨rfl, hb1⟩
  have HB1 := Lib.hid hb1
  have CO := Lib.hid (median_any A ca l w1 (HL.out.later hb1))
  clear hb1 CA
  by_cases h : okl l
  · by_cases h0 : l.length = 0
    · rw [medT_none h h0] at CO
      clear h h0
      go_wp2_with fail
      refine CO.out.mono ?_
      rintro e w2 ⟨rfl, hb2⟩
      have HB2 := Lib.hid (HB1.out.trans (hb2.mono HB1.out.size))
      clear CO hb2 HB1
      go_wp2
      go_ret
      exact ⟨rfl, HB2.out⟩
    · rw [medT_ok h (by omega)] at CO
      have H := Lib.hid h
      have h4 := h.1
      have bm := smed_bd h
      have HX := Lib.hid (med_all l x)
      clear h h0
      obtain ⟨m, hm⟩ : ∃ m, smed (imsort l) = m := ⟨_, rfl⟩
      rw [hm] at CO bm HX
      clear hm
      go_wp2_with fail
      refine CO.out.mono ?_
      rintro e w2 ⟨rfl, hb2⟩
      have HB2 := Lib.hid (HB1.out.trans (hb2.mono HB1.out.size))
      clear CO hb2 HB1
      by_cases hg : 1099511627776 < x
      · go_wp2
        go_ret
        exact ⟨rfl, HB2.out⟩
      by_cases hs : x < -1099511627776
      · go_wp2
        go_ret
        exact ⟨rfl, HB2.out⟩
      have HN := Lib.hid (fun k => fsum_take_bd (f := near2 m) H.out (fun y hy => near_bd bm hy) k)
      have HF := Lib.hid (fun k => fsum_take_bd (f := far2 x) H.out (fun y hy => far_bd ⟨by omega, by omega⟩ hy) k)
      go_wp2
      go_loopw [7, 8, 40] (fun a b i wr => ∃ k : Nat, k ≤ l.length ∧ a = .int .i64 (fsum (near2 m) (l.take k)) ∧ b = .int .i64 (fsum (far2 x) (l.take k)) ∧ i = .int .i64 k ∧ Below w.heap.size w wr) (fun _ _ i _ => l.length - (intOf i).toNat)
      case atStart => exact ⟨0, by omega, by simp [fsum], by simp [fsum], rfl, HB2.out⟩
      case round =>
        clear HB2
        obtain ⟨k, hk, rfl, rfl, rfl, hB⟩ := hrel
        have HB := Lib.hid hB
        clear hB
        by_cases hlt : k < l.length
        · obtain ⟨b, off, rfl, _, hcell⟩ := (HL.out.later HB.out).il.at (by omega)
          have hci := hcell k hlt
          have H1 := Lib.hid (fsum_succ (near2 m) hlt)
          have H2 := Lib.hid (fsum_succ (far2 x) hlt)
          have b1 := HN.out k
          have b2 := HF.out k
          have by' := sin_at H.out.2 hlt
          clear hcell
          generalize fsum (near2 m) (l.take k) = P at *
          generalize fsum (far2 x) (l.take k) = Q at *
          generalize l.getD k 0 = y at *
          have hn := near_bd bm by'
          have hf := far_bd (x := x) (y := y) ⟨by omega, by omega⟩ by'
          unfold near2 at hn
          unfold far2 at hf
          go_wp2
          go_roundw
          case rel => exact ⟨k + 1, by omega, by rw [H1.out]; rfl, by rw [H2.out]; rfl, by go_num, HB.out⟩
          case measure => simp [intOf]; omega
        · obtain rfl : k = l.length := by omega
          rw [List.take_length]
          have hle' := HX.out
          go_wp2
          go_ret
          exact ⟨rfl, HB.out⟩
  · rw [medT_no h] at CO
    clear h
    go_wp2_with fail
    refine CO.out.mono ?_
    rintro e w2 ⟨rfl, hb2⟩
    have HB2 := Lib.hid (HB1.out.trans (hb2.mono HB1.out.size))
    clear CO hb2 HB1
    go_wp2
    go_ret
    exact ⟨rfl, HB2.out⟩
end Go.Proofs.Ytclfimpcacoefaa
