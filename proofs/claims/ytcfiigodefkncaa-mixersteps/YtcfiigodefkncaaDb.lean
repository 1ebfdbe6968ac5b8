import Derived.Test.YtcfiigodefkncaaSz
import Derived.Test.YtcfiigodefkncaaIcu
import Derived.Test.YtcfiigodefkncaaI7
/- lotdrawerref.parts where the divisor has one digit. -/
namespace Go.Proofs.Ytcfiigodefkncaa.H
open Go.RowKit Go.Deep
def quW (r x y : Nat) : Nat := (r * Bw + x) / y
def reW (r x y : Nat) : Nat := (r * Bw + x) % y
theorem quW_eq (r x y : Nat) : quW r x y * y + reW r x y = r * Bw + x := Nat.div_add_mod' _ _
theorem quW_lt {r x y : Nat} (h : r < y) (hx : x < Bw) : quW r x y < Bw := by
  unfold quW
  refine Nat.div_lt_of_lt_mul ?_
  have : (r + 1) * Bw ≤ y * Bw := Nat.mul_le_mul_right _ h
  rw [Nat.succ_mul] at this
  omega

/-- What stands in the loop of Div: the words from place k on are divided. -/
def DivRel (w : World) (xs : List Nat) (b k r : Nat) (wr : World) : Prop :=
  ∃ ds, ds.length = xs.length - k ∧ k ≤ xs.length ∧ Sm ds ∧ r < b ∧ val ds * b + r = val (xs.drop k) ∧ Bk wr w.heap.size (List.replicate k 0 ++ ds) ∧ Below w.heap.size w wr

theorem DivRel.start (w : World) (xs : List Nat) {b : Nat} (hb : 0 < b) : DivRel w xs b xs.length 0 (w.alloc (.cells (madeCells #[.int .u32 0] xs.length) 63)) :=
  ⟨[], by simp, Nat.le_refl _, Sm.nil, hb, by simp [val], by simpa using Bk.made w xs.length, (Below.refl _ _).alloc (Nat.le_refl _) _⟩
theorem drop_val {xs : List Nat} {m : Nat} (h : m < xs.length) : val (xs.drop m) = wd xs m + Bw * val (xs.drop (m + 1)) := by
  rw [List.drop_eq_getElem_cons h, val]
  have : xs[m] = wd xs m := by have := wd_in h; rw [List.getElem?_eq_getElem h] at this; simpa using this
  rw [this]
theorem DivRel.next {w wr w' : World} {xs : List Nat} {b m r : Nat} (h : DivRel w xs b (m + 1) r wr) (hs : Sm xs) (hw : Below wr.heap.size wr w') :
    DivRel w xs b m (reW r (wd xs m) b) (w'.setCell ⟨w.heap.size, m, none⟩ (.int .u32 (quW r (wd xs m) b : Int))) := by
  obtain ⟨ds, h1, h2, h3, h4, h5, h6, h7⟩ := h
  refine ⟨quW r (wd xs m) b :: ds, by simp [h1]; omega, by omega, Sm.cons (quW_lt h4 (wd_lt hs m)) h3, Nat.mod_lt _ (by omega), ?_, ?_, ?_⟩
  · rw [drop_val (by omega), ← h5, val, Nat.add_mul, Nat.mul_add]
    have := quW_eq r (wd xs m) b
    have e : Bw * val ds * b = Bw * (val ds * b) := Nat.mul_assoc _ _ _
    have e2 : Bw * r = r * Bw := Nat.mul_comm _ _
    omega
  · have := (h6.below hw h6.lt).set m (quW r (wd xs m) b)
    have e : (List.replicate (m + 1) 0 ++ ds).set m (quW r (wd xs m) b) = List.replicate m 0 ++ quW r (wd xs m) b :: ds := by
      rw [List.replicate_succ', List.append_assoc, List.set_append_right _ _ (by simp)]
      simp
    rw [e] at this
    exact this
  · exact (h7.trans (hw.mono (h7.size))).setCell (Nat.le_refl _) _
theorem DivRel.free {w wr w' : World} {xs : List Nat} {b m r : Nat} (h : DivRel w xs b (m + 1) r wr) (hw : Below wr.heap.size wr w') :
    w'.cell? ⟨w.heap.size, m, none⟩ = some (.int .u32 0) ∧ w'.frozen? ⟨w.heap.size, m, none⟩ = false := by
  obtain ⟨ds, h1, h2, h3, h4, h5, h6, h7⟩ := h
  have h8 := h6.below hw h6.lt
  refine ⟨?_, h8.frozen m⟩
  rw [h8.cell (by simp; omega)]
  have : Go.Proofs.Ytcfiigodefkncaa.H.wd (List.replicate (m + 1) 0 ++ ds) m = 0 := by
    unfold Go.Proofs.Ytcfiigodefkncaa.H.wd
    rw [List.getD_eq_getElem?_getD, List.getElem?_append_left (by simp), List.getElem?_replicate]; split <;> rfl
  rw [this]; rfl

theorem DivRel.done {w wr : World} {xs : List Nat} {b r : Nat} (h : DivRel w xs b 0 r wr) (hb : 0 < b) :
    ∃ zs, zs.length = xs.length ∧ Wd wr (some ⟨w.heap.size, 0, none⟩) zs ∧ val zs = val xs / b ∧ r = val xs % b ∧ Below w.heap.size w wr := by
  obtain ⟨ds, h1, h2, h3, h4, h5, h6, h7⟩ := h
  simp only [List.drop_zero, List.replicate_zero, List.nil_append] at h5 h6
  refine ⟨ds, by omega, h6.wd h3, ?_, ?_, h7⟩
  · rw [← h5, Nat.add_comm, Nat.add_mul_div_right _ _ hb, Nat.div_eq_of_lt h4, Nat.zero_add]
  · rw [← h5, Nat.add_comm, Nat.add_mul_mod_self_right, Nat.mod_eq_of_lt h4]

end Go.Proofs.Ytcfiigodefkncaa.H
namespace Go.Proofs.Ytcfiigodefkncaa
open Go.RowKit Go.Deep

theorem top64 {r x : Nat} (hr : r < 4294967296) (hx : x < 4294967296) : bits BinOp.or IntKind.u64 ((r : Int) * 4294967296) (x : Int) = ((r * 4294967296 + x : Nat) : Int) := by
  have := bits_or_u64_nat (r * 4294967296) x (by omega) (by omega)
  rw [show (4294967296 : Nat) = 2 ^ 32 from rfl, Nat.mul_comm, ← Nat.two_pow_add_eq_or_of_lt (by omega), Nat.mul_comm] at this
  exact this

/-- What parts returns: a row that is the quotient, a row that is the rest. -/
def Parts (X Y : Nat) (w : World) (e : Ending) (w' : World) : Prop :=
  ∃ Q R qs rs c d, e = .returned (.tuple #[.slice Q qs.length c, .slice R rs.length d]) ∧ H.Wd w' Q qs ∧ H.Wd w' R rs ∧ qs.length ≤ c ∧ rs.length ≤ d ∧ qs.length ≤ 900000 ∧ rs.length ≤ 900000 ∧ H.val qs = X / Y ∧ H.val rs = X % Y ∧ Below w.heap.size w w'

set_option maxRecDepth 100000 in
set_option maxHeartbeats 1000000 in
theorem parts1_any (A B : Option Addr) (ca cb y : Nat) (xs : List Nat) (w : World) (ha : H.Wd w A xs) (hb : H.Wd w B [y]) (hx : xs.length ≤ 400000) (hy : 0 < y) :
    Calls Try.prog 46 #[.slice A xs.length ca, .slice B 1 cb] w fun e w' => Parts (H.val xs) y w e w' := by
  have hmk := run_make_row' (P := Try.prog) 51 63 (.int .u32 0) 4 Try.underlying51 Try.info63 rfl .i64 .i64 xs.length (by omega) (by omega)
  have hyB : y < 4294967296 := hb.1 y (by simp)
  obtain ⟨b2, o2, rfl, ⟨hl2, cs2, fr2, hcs2⟩, hc2⟩ := hb.2 (by simp)
  have e2 : Hid (w.cell? ⟨b2, o2, none⟩ = some (.int .u32 (y : Int))) := by
    have := hc2 0 (by simp); exact this
  have HA := Lib.hid ha
  have hyz := eqz_no (x := y) (by omega)
  clear ha hb hc2 hcs2
  go_enter Try.func46, Try.ntmps46
  go_wp2_with fail
  go_loopw [7, 8] (fun rv i wr => ∃ k r : Nat, i = .int .i64 ((k : Int) - 1) ∧ rv = .int .u64 r ∧ H.DivRel w xs y k r wr) (fun _ i _ => (intOf i + 1).toNat)
  case atStart => exact ⟨xs.length, 0, rfl, rfl, H.DivRel.start w xs hy⟩
  case round =>
    clear hmk
    obtain ⟨k, r, rfl, rfl, hR⟩ := hrel
    have HR := Lib.hid hR
    clear hR
    cases k with
    | zero =>
      rw [show ((0 : Nat) : Int) - 1 = -1 from rfl]
      obtain ⟨zs, hz1, hz2, hz3, hz4, hz5⟩ := HR.out.done hy
      have hrB : r < 4294967296 := by rw [hz4]; exact Nat.lt_trans (Nat.mod_lt _ hy) hyB
      have Z1 := Lib.hid hz1
      have Z2 := Lib.hid hz2
      have Z3 := Lib.hid hz3
      have Z4 := Lib.hid hz4
      have Z5 := Lib.hid hz5
      clear hz1 hz2 hz3 hz4 hz5
      go_wp2
      go_ret2
      refine ⟨some ⟨w.heap.size, 0, none⟩, some ⟨wr.heap.size, 0, none⟩, zs, [r], xs.length, 1, by rw [Z1.out]; rfl, Z2.out.below ((Below.refl _ _).alloc (Nat.le_refl _) _), ?_, by rw [Z1.out]; exact Nat.le_refl _, Nat.le_refl _, by rw [Z1.out]; omega, by simp, Z3.out, by rw [← Z4.out]; simp [H.val], Z5.out.alloc Z5.out.size _⟩
      have hB : H.Bk (wr.alloc (.cells #[.int .u32 (r : Int)] 63)) wr.heap.size [r] := by
        unfold H.Bk
        rw [heap_alloc_new]
        rfl
      exact hB.wd (H.Sm.one (by unfold H.Bw; exact hrB))
    | succ m =>
      rw [show ((m + 1 : Nat) : Int) - 1 = (m : Int) by omega]
      obtain ⟨_, _, hml, _, hrb, _, _, hbel⟩ := HR.out
      have HW : H.Wd wr A xs := HA.out.below hbel
      obtain ⟨bl, ofb, rfl, _, hcb⟩ := HW.2 (by omega)
      have hcx := hcb m (by omega)
      have bx : H.wd xs m < 4294967296 := H.wd_lt HA.out.1 m
      have hrB : r < 4294967296 := by omega
      have hor := top64 hrB bx
      obtain ⟨T, hT⟩ : ∃ T, T = r * 4294967296 + H.wd xs m := ⟨_, rfl⟩
      rw [← hT] at hor
      have hTB : T < 18446744073709551616 := by omega
      obtain ⟨q, hq⟩ : ∃ q, q = H.quW r (H.wd xs m) y := ⟨_, rfl⟩
      obtain ⟨r', hr'⟩ : ∃ r', r' = H.reW r (H.wd xs m) y := ⟨_, rfl⟩
      have hqB : q < 4294967296 := by rw [hq]; exact H.quW_lt hrb bx
      have hdq : (T : Int) / (y : Int) = (q : Int) := by rw [← Int.natCast_ediv, hq, hT]; rfl
      have hdr : (T : Int) % (y : Int) = (r' : Int) := by rw [← Int.natCast_emod, hr', hT]; rfl
      have e3 : wr.cell? ⟨b2, o2, none⟩ = some (.int .u32 (y : Int)) := by
        rw [World.cell?_of_block (w := w) (w' := wr) (a := ⟨b2, o2, none⟩) (hbel.block b2 hl2)]; exact e2.out
      have e4 : (wr.setCell ⟨w.heap.size, m, none⟩ (.int .u32 (q : Int))).cell? ⟨b2, o2, none⟩ = some (.int .u32 (y : Int)) := by
        rw [World.cell?_setCell_other _ _ _ _ (by intro e; injection e; omega)]; exact e3
      obtain ⟨f1, f2⟩ := HR.out.free (Below.refl _ _)
      have HQ := Lib.hid hq
      have HR' := Lib.hid hr'
      have hml' : m < xs.length := by omega
      clear hcb HW hbel hT hq hr' hml hrb
      go_wp2_with fail
      go_roundw
      case rel =>
        have N := HR.out.next HA.out.1 (Below.refl _ _)
        rw [← HQ.out, ← HR'.out] at N
        exact ⟨m, r', rfl, by rw [hdr], N⟩
      case measure => simp [intOf]
end Go.Proofs.Ytcfiigodefkncaa
