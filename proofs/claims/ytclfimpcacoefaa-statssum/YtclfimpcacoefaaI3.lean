/- lotdrawerref.sumOf and lessOf: digits added, and taken away. -/
import Derived.Test.YtclfimpcacoefaaI2
import Derived.Deep.OwnRows
namespace Go.Proofs.Ytclfimpcacoefaa
open Go.RowKit Go.Deep

theorem Try.info63 : (Try.prog.info? 63).map (fun i => (i.zero, i.size, i.bytes)) = some (some (.int .u32 0), 1, 4) := by kernel_rfl

theorem H.set_next {ds : List Nat} {k n x : Nat} (hk : ds.length = k) (hkn : k < n) : (ds ++ List.replicate (n - k) 0).set k x = (ds ++ [x]) ++ List.replicate (n - (k + 1)) 0 := by
  rw [List.set_append_right _ _ (by omega), hk, Nat.sub_self]
  obtain ⟨m, hm⟩ : ∃ m, n - k = m + 1 := ⟨n - k - 1, by omega⟩
  rw [hm, show n - (k + 1) = m by omega]
  simp [List.replicate_succ]
theorem H.wd_next {ds : List Nat} {k n : Nat} (hk : ds.length = k) : H.wd (ds ++ List.replicate (n - k) 0) k = 0 := by
  unfold H.wd
  rw [List.getD_eq_getElem?_getD, List.getElem?_append_right (by omega), List.getElem?_replicate]; split <;> rfl

/-- One step of a loop that fills a new row: k digits are done. -/
def Fill (w : World) (n k : Nat) (ds : List Nat) (wr : World) : Prop :=
  ds.length = k ∧ H.Sm ds ∧ H.Bk wr w.heap.size (ds ++ List.replicate (n - k) 0) ∧ Below w.heap.size w wr
theorem Fill.start (w : World) (n : Nat) : Fill w n 0 [] (w.alloc (.cells (madeCells #[.int .u32 0] n) 63)) :=
  ⟨rfl, H.Sm.nil, by simpa using H.Bk.made w n, (Below.refl _ _).alloc (Nat.le_refl _) _⟩
theorem Fill.next {w wr : World} {n k : Nat} {ds : List Nat} (h : Fill w n k ds wr) (hk : k < n) {x : Nat} {v : Int} (hx : x < H.Bw) (hv : v = (x : Int)) : Fill w n (k + 1) (ds ++ [x]) (wr.setCell ⟨w.heap.size, k, none⟩ (.int .u32 v)) := by
  obtain ⟨h1, h2, h3, h4⟩ := h
  subst hv
  refine ⟨by simp [h1], h2.append (H.Sm.one hx), ?_, h4.setCell (Nat.le_refl _) _⟩
  have := h3.set k x
  rw [H.set_next h1 hk] at this
  exact this
theorem Fill.free {w wr : World} {n k : Nat} {ds : List Nat} (h : Fill w n k ds wr) (hk : k < n) : wr.cell? ⟨w.heap.size, k, none⟩ = some (.int .u32 0) ∧ wr.frozen? ⟨w.heap.size, k, none⟩ = false := by
  obtain ⟨h1, h2, h3, h4⟩ := h
  refine ⟨?_, h3.frozen k⟩
  rw [h3.cell (by simp [h1]; omega), H.wd_next h1]; rfl
theorem Fill.done {w wr : World} {n : Nat} {ds : List Nat} (h : Fill w n n ds wr) : H.Wd wr (some ⟨w.heap.size, 0, none⟩) ds ∧ Below w.heap.size w wr := by
  obtain ⟨h1, h2, h3, h4⟩ := h
  rw [Nat.sub_self, List.replicate_zero, List.append_nil] at h3
  exact ⟨h3.wd h2, h4⟩

theorem H.add_step {xs ys ds : List Nat} {k c d c' : Nat} (hk : ds.length = k) (h : H.val ds + H.Bw ^ k * c = H.val (xs.take k) + H.val (ys.take k)) (e : d + H.Bw * c' = H.wd xs k + H.wd ys k + c) :
    H.val (ds ++ [d]) + H.Bw ^ (k + 1) * c' = H.val (xs.take (k + 1)) + H.val (ys.take (k + 1)) := by
  rw [H.val_append, hk, H.val_take_any, H.val_take_any]
  simp only [H.val, Nat.mul_zero, Nat.add_zero]
  have e2 : H.Bw ^ k * d + H.Bw ^ (k + 1) * c' = H.Bw ^ k * H.wd xs k + H.Bw ^ k * H.wd ys k + H.Bw ^ k * c := by
    rw [Nat.pow_succ, Nat.mul_assoc, ← Nat.mul_add, e, Nat.mul_add, Nat.mul_add]
  omega
theorem H.sub_step {xs ys ds : List Nat} {k c d c' : Nat} (h1 : ds.length = k) (h4 : H.val ds + H.val (ys.take k) = H.val (xs.take k) + H.Bw ^ k * c) (e : d + H.wd ys k + c = H.wd xs k + H.Bw * c') :
    H.val (ds ++ [d]) + H.val (ys.take (k + 1)) = H.val (xs.take (k + 1)) + H.Bw ^ (k + 1) * c' := by
  rw [H.val_append, h1, H.val_take_any, H.val_take_any]
  simp only [H.val, Nat.mul_zero, Nat.add_zero]
  have e2 : H.Bw ^ k * d + H.Bw ^ k * H.wd ys k + H.Bw ^ k * c = H.Bw ^ k * H.wd xs k + H.Bw ^ (k + 1) * c' := by
    rw [Nat.pow_succ, Nat.mul_assoc, ← Nat.mul_add, ← Nat.mul_add, e, Nat.mul_add]
  omega

set_option maxHeartbeats 1000000 in
theorem sumOf_core (A B : Option Addr) (ca cb : Nat) (xs ys : List Nat) (w : World) (args : Array Value) (ha : H.Wd w A xs) (hb : H.Wd w B ys) (hl : ys.length ≤ xs.length) (hx : xs.length ≤ 11000000000000)
    (harg : args = #[.slice A xs.length ca, .slice B ys.length cb] ∨ (args = #[.slice B ys.length cb, .slice A xs.length ca] ∧ ys.length < xs.length)) :
    Calls Try.prog 44 args w fun e w' => ∃ R c zs, e = .returned (.slice R zs.length c) ∧ H.Wd w' R zs ∧ zs.length = xs.length + 1 ∧ zs.length ≤ c ∧ H.val zs = H.val xs + H.val ys ∧ Below w.heap.size w w' := by
  have hmk := run_make_row' (P := Try.prog) 49 63 (.int .u32 0) 4 Try.underlying49 Try.info63 rfl .i64 .i64 (xs.length + 1) (by omega) (by omega)
  simp only [Int.natCast_add, Int.cast_ofNat_Int] at hmk
  have HA := Lib.hid ha
  have HB := Lib.hid hb
  clear ha hb
  rcases harg with rfl | ⟨rfl, hlt⟩
  all_goals
    go_enter Try.func44, Try.ntmps44
    go_wp2
    go_loopw [6, 22] (fun cv i wr => ∃ k c : Nat, ∃ ds, k ≤ xs.length ∧ c ≤ 1 ∧ i = .int .i64 k ∧ cv = .int .u64 c ∧ H.val ds + H.Bw ^ k * c = H.val (xs.take k) + H.val (ys.take k) ∧ Fill w (xs.length + 1) k ds wr) (fun _ i _ => xs.length - (intOf i).toNat)
    case atStart => exact ⟨0, 0, [], Nat.zero_le _, by omega, rfl, rfl, by simp [H.val], Fill.start w _⟩
    case round =>
      obtain ⟨k, c, ds, hk, hc, rfl, rfl, hV, hF⟩ := hrel
      have HV := Lib.hid hV
      have HF := Lib.hid hF
      clear hV hF
      by_cases hkl : k < xs.length
      · obtain ⟨f1, f2⟩ := HF.out.free (by omega)
        have hbel := HF.out.2.2.2
        obtain ⟨b1, o1, rfl, _, hc1⟩ := (HA.out.below hbel).2 (by omega)
        have e1 := hc1 k hkl
        have bx : H.wd xs k < 4294967296 := H.wd_lt HA.out.1 k
        by_cases hky : k < ys.length
        · obtain ⟨b2, o2, rfl, _, hc2⟩ := (HB.out.below hbel).2 (by omega)
          have e2 := hc2 k hky
          have bY : H.wd ys k < 4294967296 := H.wd_lt HB.out.1 k
          clear hc1 hc2 hbel
          go_wp2_with fail
          go_roundw
          case rel => exact ⟨k + 1, (c + H.wd xs k + H.wd ys k) / 4294967296, ds ++ [(c + H.wd xs k + H.wd ys k) % 4294967296], by omega, by omega, by go_num, congrArg (Value.int .u64) (by omega),
                        H.add_step HF.out.1 HV.out (by unfold H.Bw; omega), HF.out.next (by omega) (by unfold H.Bw; omega) (by omega)⟩
          case measure => simp [intOf]; omega
        · have hz : H.wd ys k = 0 := H.wd_out (by omega)
          have HZ := Lib.hid hz
          clear hc1 hbel hz
          go_wp2_with fail
          go_roundw
          case rel => exact ⟨k + 1, (c + H.wd xs k) / 4294967296, ds ++ [(c + H.wd xs k) % 4294967296], by omega, by omega, by go_num, congrArg (Value.int .u64) (by omega),
                        H.add_step HF.out.1 HV.out (by rw [HZ.out]; unfold H.Bw; omega), HF.out.next (by omega) (by unfold H.Bw; omega) (by omega)⟩
          case measure => simp [intOf]; omega
      · obtain rfl : xs.length = k := by omega
        obtain ⟨f1, f2⟩ := HF.out.free (by omega)
        have hD := (HF.out.next (x := c) (v := (c : Int)) (by omega) (by unfold H.Bw; omega) rfl).done
        have hv : H.val (ds ++ [c]) = H.val xs + H.val ys := by
          rw [H.val_append, HF.out.1]
          simp only [H.val, Nat.mul_zero, Nat.add_zero]
          rw [HV.out, H.val_take_all (Nat.le_refl _), H.val_take_all hl]
        have HD := Lib.hid hD
        have HVV := Lib.hid hv
        have HL : Hid ((ds ++ [c]).length = xs.length + 1) := by show (ds ++ [c]).length = xs.length + 1; rw [List.length_append, HF.out.1]; rfl
        clear hD hv
        go_wp2
        go_ret
        exact ⟨some ⟨w.heap.size, 0, none⟩, xs.length + 1, ds ++ [c], by rw [HL.out]; rfl, HD.out.1, HL.out, by rw [HL.out]; exact Nat.le_refl _, HVV.out, HD.out.2⟩

theorem sumOf_any (A B : Option Addr) (ca cb : Nat) (xs ys : List Nat) (w : World) (ha : H.Wd w A xs) (hb : H.Wd w B ys) (hx : xs.length ≤ 11000000000000) (hy : ys.length ≤ 11000000000000) :
    Calls Try.prog 44 #[.slice A xs.length ca, .slice B ys.length cb] w fun e w' => ∃ R c zs, e = .returned (.slice R zs.length c) ∧ H.Wd w' R zs ∧ zs.length ≤ 11000000000001 ∧ zs.length ≤ c ∧ H.val zs = H.val xs + H.val ys ∧ Below w.heap.size w w' := by
  by_cases h : ys.length ≤ xs.length
  · refine (sumOf_core A B ca cb xs ys w _ ha hb h hx (.inl rfl)).mono ?_
    rintro e w' ⟨R, c, zs, rfl, h1, h2, h3, h4, h5⟩
    exact ⟨R, c, zs, rfl, h1, by omega, h3, h4, h5⟩
  · refine (sumOf_core B A cb ca ys xs w _ hb ha (by omega) hy (.inr ⟨rfl, by omega⟩)).mono ?_
    rintro e w' ⟨R, c, zs, rfl, h1, h2, h3, h4, h5⟩
    exact ⟨R, c, zs, rfl, h1, by omega, h3, by omega, h5⟩

/-- The digit and the borrow of a difference. -/
theorem less_digit {a y c : Nat} (ha : a < 4294967296) (hy : y < 4294967296) (hc : c ≤ 1) :
    ∃ d c' : Nat, d < 4294967296 ∧ c' ≤ 1 ∧ d + y + c = a + 4294967296 * c' ∧ IntKind.u64.wrap (IntKind.u64.wrap ((a : Int) - (c : Int)) - (y : Int)) % 4294967296 = (d : Int) ∧
      IntKind.u64.wrap (IntKind.u64.wrap ((a : Int) - (c : Int)) - (y : Int)) / 9223372036854775808 = (c' : Int) := by
  by_cases h : a < y + c
  · exact ⟨a + 4294967296 - y - c, 1, by omega, by omega, by omega, by simp only [IntKind.wrap_u64]; omega, by simp only [IntKind.wrap_u64]; omega⟩
  · exact ⟨a - y - c, 0, by omega, by omega, by omega, by simp only [IntKind.wrap_u64]; omega, by simp only [IntKind.wrap_u64]; omega⟩
theorem less_digit0 {a c : Nat} (ha : a < 4294967296) (hc : c ≤ 1) :
    ∃ d c' : Nat, d < 4294967296 ∧ c' ≤ 1 ∧ d + c = a + 4294967296 * c' ∧ IntKind.u64.wrap ((a : Int) - (c : Int)) % 4294967296 = (d : Int) ∧
      IntKind.u64.wrap ((a : Int) - (c : Int)) / 9223372036854775808 = (c' : Int) := by
  by_cases h : a < c
  · exact ⟨a + 4294967296 - c, 1, by omega, by omega, by omega, by simp only [IntKind.wrap_u64]; omega, by simp only [IntKind.wrap_u64]; omega⟩
  · exact ⟨a - c, 0, by omega, by omega, by omega, by simp only [IntKind.wrap_u64]; omega, by simp only [IntKind.wrap_u64]; omega⟩

set_option maxHeartbeats 1000000 in
theorem lessOf_any (A B : Option Addr) (ca cb : Nat) (xs ys : List Nat) (w : World) (ha : H.Wd w A xs) (hb : H.Wd w B ys) (hl : ys.length ≤ xs.length) (hx : xs.length ≤ 11000000000000) (hv : H.val ys ≤ H.val xs) :
    Calls Try.prog 45 #[.slice A xs.length ca, .slice B ys.length cb] w fun e w' => ∃ R c zs, e = .returned (.slice R zs.length c) ∧ H.Wd w' R zs ∧ zs.length ≤ 11000000000001 ∧ zs.length ≤ c ∧ H.val zs = H.val xs - H.val ys ∧ Below w.heap.size w w' := by
  have hmk := run_make_row' (P := Try.prog) 49 63 (.int .u32 0) 4 Try.underlying49 Try.info63 rfl .i64 .i64 xs.length (by omega) (by omega)
  have HA := Lib.hid ha
  have HB := Lib.hid hb
  have HVL := Lib.hid hv
  clear ha hb hv
  go_enter Try.func45, Try.ntmps45
  go_wp2
  go_loopw [6, 15] (fun cv i wr => ∃ k c : Nat, ∃ ds, k ≤ xs.length ∧ c ≤ 1 ∧ i = .int .i64 k ∧ cv = .int .u64 c ∧ H.val ds + H.val (ys.take k) = H.val (xs.take k) + H.Bw ^ k * c ∧ Fill w xs.length k ds wr) (fun _ i _ => xs.length - (intOf i).toNat)
  case atStart => exact ⟨0, 0, [], Nat.zero_le _, by omega, rfl, rfl, by simp [H.val], Fill.start w _⟩
  case round =>
    obtain ⟨k, c, ds, hk, hc, rfl, rfl, hV, hF⟩ := hrel
    have HV := Lib.hid hV
    have HF := Lib.hid hF
    clear hV hF
    by_cases hkl : k < xs.length
    · obtain ⟨f1, f2⟩ := HF.out.free hkl
      have hbel := HF.out.2.2.2
      obtain ⟨b1, o1, rfl, _, hc1⟩ := (HA.out.below hbel).2 (by omega)
      have e1 := hc1 k hkl
      have bx : H.wd xs k < 4294967296 := H.wd_lt HA.out.1 k
      by_cases hky : k < ys.length
      · obtain ⟨b2, o2, rfl, _, hc2⟩ := (HB.out.below hbel).2 (by omega)
        have e2 := hc2 k hky
        have bY : H.wd ys k < 4294967296 := H.wd_lt HB.out.1 k
        obtain ⟨d, c', d1, d2, d3, d4, d5⟩ := less_digit bx bY hc
        have D3 := Lib.hid d3
        have D4 := Lib.hid d4
        have D5 := Lib.hid d5
        clear hc1 hc2 hbel d3 d4 d5
        go_wp2_with fail
        go_roundw
        case rel => exact ⟨k + 1, c', ds ++ [d], by omega, by omega, by go_num, congrArg (Value.int .u64) D5.out, H.sub_step HF.out.1 HV.out (by unfold H.Bw; exact D3.out), HF.out.next hkl (by unfold H.Bw; exact d1) D4.out⟩
        case measure => simp [intOf]; omega
      · have hz : H.wd ys k = 0 := H.wd_out (by omega)
        have HZ := Lib.hid hz
        obtain ⟨d, c', d1, d2, d3, d4, d5⟩ := less_digit0 bx hc
        have D3 := Lib.hid d3
        have D4 := Lib.hid d4
        have D5 := Lib.hid d5
        clear hc1 hbel d3 d4 d5 hz
        go_wp2_with fail
        go_roundw
        case rel => exact ⟨k + 1, c', ds ++ [d], by omega, by omega, by go_num, congrArg (Value.int .u64) D5.out, H.sub_step HF.out.1 HV.out (by rw [HZ.out]; unfold H.Bw; exact D3.out), HF.out.next hkl (by unfold H.Bw; exact d1) D4.out⟩
        case measure => simp [intOf]; omega
    · obtain rfl : xs.length = k := by omega
      have hD := HF.out.done
      have hvv : H.val ds = H.val xs - H.val ys := by
        have h1 := HV.out
        rw [H.val_take_all (Nat.le_refl _), H.val_take_all hl] at h1
        have h2 := H.val_lt HF.out.2.1
        rw [HF.out.1] at h2
        have h3 := HVL.out
        have : c = 0 ∨ c = 1 := by omega
        rcases this with rfl | rfl
        · omega
        · omega
      have HD := Lib.hid hD
      have HVV := Lib.hid hvv
      have HL := Lib.hid HF.out.1
      clear hD hvv
      go_wp2
      go_ret
      exact ⟨some ⟨w.heap.size, 0, none⟩, xs.length, ds, by rw [HL.out]; rfl, HD.out.1, by rw [HL.out]; omega, by rw [HL.out]; exact Nat.le_refl _, HVV.out, HD.out.2⟩
end Go.Proofs.Ytclfimpcacoefaa
