/- nat.Add: the sum, word by word. -/
import Derived.Test.YtfhbnolppahfhaaW1
import Derived.Laws.Externs
import Derived.Deep.OwnRows
namespace Go.Proofs.Ytfhbnolppahfhaa
open Go.RowKit Go.Deep

theorem Try.info23 : (Try.prog.info? 23).map (fun i => (i.zero, i.size, i.bytes)) = some (some (.int .u64 0), 1, 8) := by kernel_rfl

/-- The low word and the carry of a sum of two words and a carry. -/
def loA (x y c : Nat) : Nat := (x + y + c) % Bw
def hiA (x y c : Nat) : Nat := (x + y + c) / Bw
theorem loA_lt (x y c : Nat) : loA x y c < Bw := Nat.mod_lt _ Bw_pos
theorem hiA_le {x y c : Nat} (hx : x < Bw) (hy : y < Bw) (hc : c ≤ 1) : hiA x y c ≤ 1 := by
  unfold hiA
  have : (x + y + c) / Bw < 2 := Nat.div_lt_of_lt_mul (by omega)
  omega

theorem add64_run (x y c : Nat) (hc : c ≤ 1) (w : World) :
    (callFunc 31 #[.int .u64 (x : Int), .int .u64 (y : Int), .int .u64 (c : Int)]).run Try.prog w =
      .ok (.value (.tuple #[.int .u64 (loA x y c : Int), .int .u64 (hiA x y c : Int)])) w := by
  rw [run_callFunc_extern Try.func31 (by kernel_rfl) (by kernel_rfl) (by kernel_rfl) (e := add64Entry) (by kernel_rfl), run_add64 x y c (by omega) (by omega) (by omega) (by omega)]
  simp only [Result.andThen]
  unfold loA hiA Bw
  congr 5 <;> omega

theorem add_step {xs ys ds : List Nat} {k c : Nat} (hk : ds.length = k) (h : val ds + Bw ^ k * c = val (xs.take k) + val (ys.take k)) :
    val (ds ++ [loA (wd xs k) (wd ys k) c]) + Bw ^ (k + 1) * hiA (wd xs k) (wd ys k) c = val (xs.take (k + 1)) + val (ys.take (k + 1)) := by
  rw [val_append, hk, val_take_any, val_take_any]
  simp only [val, Nat.mul_zero, Nat.add_zero]
  have e : loA (wd xs k) (wd ys k) c + Bw * hiA (wd xs k) (wd ys k) c = wd xs k + wd ys k + c := Nat.mod_add_div _ _
  have e2 : Bw ^ k * loA (wd xs k) (wd ys k) c + Bw ^ (k + 1) * hiA (wd xs k) (wd ys k) c = Bw ^ k * wd xs k + Bw ^ k * wd ys k + Bw ^ k * c := by
    rw [Nat.pow_succ, Nat.mul_assoc, ← Nat.mul_add, e, Nat.mul_add, Nat.mul_add]
  omega

theorem set_next {ds : List Nat} {k n x : Nat} (hk : ds.length = k) (hkn : k < n) : (ds ++ List.replicate (n - k) 0).set k x = (ds ++ [x]) ++ List.replicate (n - (k + 1)) 0 := by
  rw [List.set_append_right _ _ (by omega), hk, Nat.sub_self]
  obtain ⟨m, hm⟩ : ∃ m, n - k = m + 1 := ⟨n - k - 1, by omega⟩
  rw [hm, show n - (k + 1) = m by omega]
  simp [List.replicate_succ]

/-- What stands in the loop of Add: k words are done, c is carried. -/
def AddRel (w : World) (n : Nat) (xs ys : List Nat) (k c : Nat) (wr : World) : Prop :=
  ∃ ds, ds.length = k ∧ Sm ds ∧ c ≤ 1 ∧ val ds + Bw ^ k * c = val (xs.take k) + val (ys.take k) ∧ Bk wr w.heap.size (ds ++ List.replicate (n + 1 - k) 0) ∧ Below w.heap.size w wr

theorem AddRel.start (w : World) (n : Nat) (xs ys : List Nat) : AddRel w n xs ys 0 0 (w.alloc (.cells (madeCells #[.int .u64 0] (n + 1)) 23)) :=
  ⟨[], rfl, Sm.nil, by omega, by simp [val], Bk.made w (n + 1), (Below.refl _ _).alloc (Nat.le_refl _) _⟩
theorem AddRel.next {w wr : World} {n : Nat} {xs ys : List Nat} {k c : Nat} (h : AddRel w n xs ys k c wr) (hx : Sm xs) (hy : Sm ys) (hk : k < n) :
    AddRel w n xs ys (k + 1) (hiA (wd xs k) (wd ys k) c) (wr.setCell ⟨w.heap.size, k, none⟩ (.int .u64 (loA (wd xs k) (wd ys k) c : Int))) := by
  obtain ⟨ds, h1, h2, h3, h4, h5, h6⟩ := h
  refine ⟨ds ++ [loA (wd xs k) (wd ys k) c], by simp [h1], h2.append (Sm.one (loA_lt _ _ _)), hiA_le (wd_lt hx k) (wd_lt hy k) h3, add_step h1 h4, ?_, h6.setCell (Nat.le_refl _) _⟩
  have := h5.set k (loA (wd xs k) (wd ys k) c)
  rw [set_next h1 (by omega)] at this
  exact this
theorem AddRel.free {w wr : World} {n : Nat} {xs ys : List Nat} {k c : Nat} (h : AddRel w n xs ys k c wr) (hk : k ≤ n) : wr.cell? ⟨w.heap.size, k, none⟩ = some (.int .u64 0) ∧ wr.frozen? ⟨w.heap.size, k, none⟩ = false := by
  obtain ⟨ds, h1, h2, h3, h4, h5, h6⟩ := h
  refine ⟨?_, h5.frozen k⟩
  rw [h5.cell (by simp [h1]; omega)]
  have : wd (ds ++ List.replicate (n + 1 - k) 0) k = 0 := by
    unfold wd; rw [List.getD_eq_getElem?_getD, List.getElem?_append_right (by omega), List.getElem?_replicate]; split <;> rfl
  rw [this]; rfl

theorem AddRel.done {w wr : World} {n : Nat} {xs ys : List Nat} {c : Nat} (h : AddRel w n xs ys n c wr) (hx : xs.length ≤ n) (hy : ys.length ≤ n) :
    ∃ zs, zs.length = n + 1 ∧ Wd (wr.setCell ⟨w.heap.size, n, none⟩ (.int .u64 (c : Int))) (some ⟨w.heap.size, 0, none⟩) zs ∧ val zs = val xs + val ys ∧ Below w.heap.size w (wr.setCell ⟨w.heap.size, n, none⟩ (.int .u64 (c : Int))) := by
  obtain ⟨ds, h1, h2, h3, h4, h5, h6⟩ := h
  have hs : Sm (ds ++ [c]) := h2.append (Sm.one (by have := Bw_gt; omega))
  refine ⟨ds ++ [c], by simp [h1], ?_, ?_, h6.setCell (Nat.le_refl _) _⟩
  · have := h5.set n c
    rw [set_next h1 (by omega), show n + 1 - (n + 1) = 0 by omega, List.replicate_zero, List.append_nil] at this
    exact this.wd hs
  · rw [val_append, h1]
    simp only [val, Nat.mul_zero, Nat.add_zero]
    rw [h4, val_take_all hx, val_take_all hy]

set_option maxHeartbeats 1000000 in
theorem add_core (A B : Option Addr) (ca cb nx ny n : Nat) (xs ys : List Nat) (w : World) (ha : Wd w A xs) (hb : Wd w B ys) (hra : rt xs = true) (hrb : rt ys = true)
    (HX : Hid (xs.length = nx)) (HY : Hid (ys.length = ny)) (hm : (n = nx ∧ ny ≤ n) ∨ (n = ny ∧ nx < n)) (hn : n ≤ 64) :
    Calls Try.prog 10 #[.slice A nx ca, .slice B ny cb] w fun e w' => ∃ R c, e = .returned (.tuple #[.slice R (fitL (val xs + val ys)).length c, .int .i64 (fitE (val xs + val ys))]) ∧
      Wd w' R (fitL (val xs + val ys)) ∧ (fitL (val xs + val ys)).length ≤ c ∧ Below w.heap.size w w' := by
  have hmk := run_make_row' (P := Try.prog) 22 23 (.int .u64 0) 8 Try.underlying22 Try.info23 rfl .i64 .i64 (n + 1) (by omega) (by omega)
  simp only [Int.natCast_add, Int.cast_ofNat_Int] at hmk
  have CA := Lib.hid (right_any A ca xs w ha (by have := HX.out; omega))
  have CB := Lib.hid (right_any B cb ys w hb (by have := HY.out; omega))
  rw [hra, HX.out] at CA
  rw [hrb, HY.out] at CB
  have hxn : xs.length ≤ n := by have := HX.out; omega
  have hyn : ys.length ≤ n := by have := HY.out; omega
  have WA : ∀ wr, Below w.heap.size w wr → ∀ k : Nat, k ≤ 64 → Calls Try.prog 32 #[.slice A nx ca, .int .i64 (k : Int)] wr fun e w' => e = .returned (.int .u64 (wd xs k : Int)) ∧ wr = w' := by
    intro wr hb k hk
    have := wordAt_any A ca xs k wr (ha.below hb) (by omega) (by omega)
    rwa [HX.out] at this
  have WB : ∀ wr, Below w.heap.size w wr → ∀ k : Nat, k ≤ 64 → Calls Try.prog 32 #[.slice B ny cb, .int .i64 (k : Int)] wr fun e w' => e = .returned (.int .u64 (wd ys k : Int)) ∧ wr = w' := by
    intro wr hbb k hk
    have := wordAt_any B cb ys k wr (hb.below hbb) (by omega) (by omega)
    rwa [HY.out] at this
  have WAH := Lib.hid WA
  have WBH := Lib.hid WB
  have SX := Lib.hid ha.1
  have SY := Lib.hid hb.1
  have LX := Lib.hid hxn
  have LY := Lib.hid hyn
  clear WA WB ha hb hra hrb hxn hyn
  rcases hm with ⟨rfl, hm⟩ | ⟨rfl, hm⟩
  all_goals
    go_enter Try.func10, Try.ntmps10
    go_wp2_with fail
    refine CA.out.mono ?_
    rintro e w' ⟨rfl, rfl⟩
    go_wp2_with fail
    refine CB.out.mono ?_
    rintro e w' ⟨rfl, rfl⟩
    go_wp2_with fail
    go_loopw [8, 27] (fun cv i wr => ∃ k c : Nat, k ≤ n ∧ i = .int .i64 k ∧ cv = .int .u64 c ∧ AddRel w n xs ys k c wr) (fun _ i _ => n - (intOf i).toNat)
    case atStart => exact ⟨0, 0, Nat.zero_le _, rfl, rfl, AddRel.start w n xs ys⟩
    case round =>
      obtain ⟨k, c, hk, rfl, rfl, hR⟩ := hrel
      have HR := Lib.hid hR
      clear hR
      by_cases hlt : k < n
      · obtain ⟨hc1, hc2⟩ := HR.out.free hk
        obtain ⟨_, _, _, hcle, _, _, hbel⟩ := HR.out
        have hadd := add64_run (wd xs k) (wd ys k) c hcle wr
        have HB := Lib.hid hbel
        clear hbel
        go_wp2_with fail
        refine (WAH.out _ HB.out k (by omega)).mono ?_
        rintro e w' ⟨rfl, rfl⟩
        go_wp2_with fail
        refine (WBH.out _ HB.out k (by omega)).mono ?_
        rintro e w' ⟨rfl, rfl⟩
        go_wp2_with fail
        go_roundw
        case rel => exact ⟨k + 1, _, by omega, by go_num, rfl, HR.out.next SX.out SY.out hlt⟩
        case measure => simp [intOf]; omega
      · obtain rfl : n = k := by omega
        obtain ⟨hc1, hc2⟩ := HR.out.free hk
        obtain ⟨zs, hz1, hz2, hz3, hz4⟩ := HR.out.done LX.out LY.out
        have C := Lib.hid (fit_any (some ⟨w.heap.size, 0, none⟩) (n + 1) zs _ hz2 (by omega) (by omega))
        rw [hz1, hz3] at C
        have HB := Lib.hid hz4
        clear hz1 hz2 hz3 hz4
        go_wp2_with fail
        refine C.out.mono ?_
        rintro e w' ⟨rfl, R, c, rfl, hW, hle⟩
        go_wp2
        go_ret2
        exact ⟨R, c, rfl, hW, hle, HB.out⟩

theorem add_any (A B : Option Addr) (ca cb : Nat) (xs ys : List Nat) (w : World) (ha : Wd w A xs) (hb : Wd w B ys) (hra : rt xs = true) (hrb : rt ys = true) :
    Calls Try.prog 10 #[.slice A xs.length ca, .slice B ys.length cb] w fun e w' => ∃ R c, e = .returned (.tuple #[.slice R (fitL (val xs + val ys)).length c, .int .i64 (fitE (val xs + val ys))]) ∧
      Wd w' R (fitL (val xs + val ys)) ∧ (fitL (val xs + val ys)).length ≤ c ∧ Below w.heap.size w w' := by
  have hla : xs.length ≤ 64 := ((rt_iff _).1 hra).1
  have hlb : ys.length ≤ 64 := ((rt_iff _).1 hrb).1
  refine add_core A B ca cb _ _ (max xs.length ys.length) xs ys w ha hb hra hrb (Lib.hid rfl) (Lib.hid rfl) ?_ (by omega)
  by_cases h : xs.length < ys.length
  · right; exact ⟨by omega, by omega⟩
  · left; exact ⟨by omega, by omega⟩

set_option maxHeartbeats 1000000 in
theorem add_bad (A B : Option Addr) (ca cb : Nat) (xs ys : List Nat) (w : World) (ha : Wd w A xs) (hb : Wd w B ys) (hla : xs.length ≤ 9223372036854775807) (hlb : ys.length ≤ 9223372036854775807) (h : (rt xs && rt ys) = false) :
    Calls Try.prog 10 #[.slice A xs.length ca, .slice B ys.length cb] w fun e w' => e = .returned (.tuple #[.slice none 0 0, .int .i64 1]) ∧ w = w' := by
  have CA := Lib.hid (right_any A ca xs w ha hla)
  have CB := Lib.hid (right_any B cb ys w hb hlb)
  clear ha hb
  by_cases h1 : rt xs = true
  · have h2 : rt ys = false := by simpa [h1] using h
    rw [h1] at CA
    rw [h2] at CB
    clear h h1 h2
    go_enter Try.func10, Try.ntmps10
    go_wp2_with fail
    refine CA.out.mono ?_
    rintro e w' ⟨rfl, rfl⟩
    go_wp2_with fail
    refine CB.out.mono ?_
    rintro e w' ⟨rfl, rfl⟩
    go_wp2
    go_ret2
    exact ⟨rfl, rfl⟩
  · have h2 : rt xs = false := by simpa using h1
    rw [h2] at CA
    clear h h1 h2
    go_enter Try.func10, Try.ntmps10
    go_wp2_with fail
    refine CA.out.mono ?_
    rintro e w' ⟨rfl, rfl⟩
    go_wp2
    go_ret2
    exact ⟨rfl, rfl⟩
end Go.Proofs.Ytfhbnolppahfhaa
