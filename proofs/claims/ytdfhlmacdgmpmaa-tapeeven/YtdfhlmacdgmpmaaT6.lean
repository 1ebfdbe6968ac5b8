/- tape.Many. -/
import Derived.Test.YtdfhlmacdgmpmaaT2
import Derived.Deep.OwnRows
namespace Go.Proofs.Ytdfhlmacdgmpmaa
open Go.RowKit Go.Deep

theorem addr_add_zero (a : Addr) : a.add 0 = a := by simp [Addr.add]
/-- t[c:]. -/
theorem tail_tp {A : Option Addr} {ca : Nat} {t : List Bool} {w : World} (h : TP w A ca t) {c : Nat} (hc : c ≤ t.length) :
    ∃ A', (if ca = c then A else Option.map (fun x => x.add c) A) = A' ∧ TP w A' (ca - c) (t.drop c) := by
  have hle := h.le
  have hcap := h.cap
  have hsh := h.short
  refine ⟨_, rfl, ?_⟩
  by_cases e : ca = c
  · rw [if_pos e]
    have e2 : t.drop c = [] := List.drop_eq_nil_of_le (by omega)
    rw [e2]
    exact ⟨Tp.nil, by simp, by omega, by simp, fun _ => by omega⟩
  · rw [if_neg e]
    refine ⟨?_, by simp; omega, by omega, by simp; omega, fun hn => ?_⟩
    · by_cases h0 : t.drop c = []
      · rw [h0]; exact Tp.nil
      · have hlt : c < t.length := by
          rcases Nat.lt_or_ge c t.length with h1 | h1
          · exact h1
          · exact absurd (List.drop_eq_nil_of_le h1) h0
        obtain ⟨b, off, rfl, _, _⟩ := h.tp.at (by omega)
        rw [Option.map_some, Addr.add_lit]
        exact h.tp.drop c
    · cases A with
      | none => have := h.none rfl; omega
      | some a => simp at hn

/-- A slice of integers that is well formed and reads as l. -/
structure IP (w : World) (A : Option Addr) (ca : Nat) (l : List Int) : Prop where
  il : Il w A l
  le : l.length ≤ ca
  cap : ca ≤ 9223372036854775807
  none : A = none → ca = 0
theorem IP.later {w w' : World} {A : Option Addr} {ca : Nat} {l : List Int} (h : IP w A ca l) (hb : Below w.heap.size w w') : IP w' A ca l := ⟨h.il.later hb, h.le, h.cap, h.none⟩

theorem info_int : (Try.prog.info? 3).map (fun i => (i.zero, i.size, i.bytes)) = some (some (.int .i64 0), 1, 8) := by kernel_rfl
theorem info_bool : (Try.prog.info? 4).map (fun i => (i.zero, i.size, i.bytes)) = some (some (.bool false), 1, 1) := by kernel_rfl

/-- What stands in the loop of Many. -/
def MRel (w : World) (t : List Bool) (l : List Int) (i c : Nat) (wr : World) : Prop :=
  ∃ xs : List Int, xs.length = i ∧ mny t l = comb xs c (mny (t.drop c) (l.drop i)) ∧ Bs 3 wr w.heap.size (ivs (xs ++ List.replicate (l.length - i) 0)) ∧ Below w.heap.size w wr

/-- Many's three answers as a tuple: where xs lies at R. -/
def mtup (R : Option Addr) (ca : Nat) (r : List Int × Int × Int) : Value := .tuple #[.slice R r.1.length ca, .int .i64 r.2.1, .int .i64 r.2.2]
def MPost (w : World) (r : List Int × Int × Int) (e : Ending) (w' : World) : Prop := ∃ R ca, e = .returned (mtup R ca r) ∧ IP w' R ca r.1 ∧ Below w.heap.size w w'

theorem mrel_start (w : World) (t : List Bool) (l : List Int) : MRel w t l 0 0 (w.alloc (.cells (madeCells #[.int .i64 0] l.length) 3)) := by
  refine ⟨[], rfl, by simp [comb_nil], ?_, (Below.refl _ _).alloc (Nat.le_refl _) _⟩
  have := Bs.made 3 w (.int .i64 0) l.length
  simpa [ivs] using this
theorem mrel_step {w wr : World} {t : List Bool} {l : List Int} {i c x u : Nat} (h : MRel w t l i c wr) (hi : i < l.length) (hb : bel (t.drop c) (l.getD i 0) = ((x : Int), (u : Int), (0 : Int))) :
    MRel w t l (i + 1) (c + u) (wr.setCell ⟨w.heap.size, i, none⟩ (.int .i64 (x : Int))) := by
  obtain ⟨xs, hl, hm, hB, hbl⟩ := h
  refine ⟨xs ++ [(x : Int)], by simp [hl], ?_, ?_, hbl.setCell (Nat.le_refl _) _⟩
  · have e : l.drop i = l.getD i 0 :: l.drop (i + 1) := by
      rw [List.drop_eq_getElem_cons hi]; simp [List.getD_eq_getElem?_getD, hi]
    rw [hm, e, comb_step hb, List.drop_drop]
  · have := hB.set i (.int .i64 (x : Int))
    have e : (ivs (xs ++ List.replicate (l.length - i) 0)).set i (.int .i64 (x : Int)) = ivs (xs ++ [(x : Int)] ++ List.replicate (l.length - (i + 1)) 0) := by
      unfold ivs
      rw [← List.map_set (f := Value.int .i64)]
      congr 1
      rw [show l.length - i = (l.length - (i + 1)) + 1 by omega, List.replicate_succ, ← hl, List.set_append_right _ _ (Nat.le_refl _)]
      simp
    rw [e] at this
    exact this
theorem mrel_cell {w wr : World} {t : List Bool} {l : List Int} {i c : Nat} (h : MRel w t l i c wr) (hi : i < l.length) : wr.cell? ⟨w.heap.size, i, none⟩ = some (.int .i64 0) ∧ wr.frozen? ⟨w.heap.size, i, none⟩ = false := by
  obtain ⟨xs, hl, _, hB, _⟩ := h
  refine ⟨?_, hB.frozen i⟩
  rw [hB.cell (by simp [ivs]; omega), ivs_at (by simp; omega), List.getD_eq_getElem?_getD, List.getElem?_append_right (by omega), List.getElem?_replicate, if_pos (by omega)]
  rfl
theorem mrel_fail {w wr : World} {t : List Bool} {l : List Int} {i c : Nat} {e : Int} (h : MRel w t l i c wr) (hi : i < l.length) (hb : bel (t.drop c) (l.getD i 0) = (0, 0, e)) (he : e ≠ 0) : mny t l = ([], 0, e) := by
  obtain ⟨xs, hl, hm, _, _⟩ := h
  have e1 : l.drop i = l.getD i 0 :: l.drop (i + 1) := by
    rw [List.drop_eq_getElem_cons hi]; simp [List.getD_eq_getElem?_getD, hi]
  rw [hm, e1, comb_fail hb he]
theorem mrel_end {w wr : World} {t : List Bool} {l : List Int} {c : Nat} (h : MRel w t l l.length c wr) : ∃ xs : List Int, xs.length = l.length ∧ mny t l = (xs, (c : Int), 0) ∧ Bs 3 wr w.heap.size (ivs xs) ∧ Below w.heap.size w wr := by
  obtain ⟨xs, hl, hm, hB, hbl⟩ := h
  refine ⟨xs, hl, ?_, by simpa using hB, hbl⟩
  rw [hm, List.drop_length, comb_end]

set_option maxHeartbeats 1000000 in
theorem many_any (A B : Option Addr) (ca cb : Nat) (t : List Bool) (l : List Int) (w : World) (ht : TP w A ca t) (hl : IP w B cb l) (hb : l.length * 8 ≤ 281474976710656) :
    Calls Try.prog 10 #[.slice A t.length ca, .slice B l.length cb] w (MPost w (mny t l)) := by
  have hlt := ht.short
  have hmk := run_make_row' (P := Try.prog) 23 3 (.int .i64 0) 8 Try.underlying23 info_int rfl .i64 .i64 l.length (by omega) (by omega)
  have HS := Lib.hid (mrel_start w t l)
  have HT := Lib.hid ht
  have HL := Lib.hid hl
  clear ht hl
  go_enter Try.func10, Try.ntmps10
  go_wp2_with fail
  go_loopw [8, 19] (fun cv iv wr => ∃ i c : Nat, i ≤ l.length ∧ c ≤ t.length ∧ cv = .int .i64 c ∧ iv = .int .i64 i ∧ MRel w t l i c wr) (fun _ iv _ => l.length - (intOf iv).toNat)
  case atStart => exact ⟨0, 0, by omega, by omega, rfl, rfl, HS.out⟩
  case round =>
    clear HS hmk
    obtain ⟨i, c, hi, hc, rfl, rfl, hR⟩ := hrel
    have HR := Lib.hid hR
    clear hR
    have HBw : Hid (Below w.heap.size w wr) := by obtain ⟨_, _, _, _, h⟩ := HR.out; exact h
    by_cases hlt2 : i < l.length
    · obtain ⟨b, off, rfl, _, hcell⟩ := (HL.out.il.later HBw.out).at (by omega)
      have hci := hcell i hlt2
      clear hcell
      obtain ⟨A', hA', hTP⟩ := tail_tp (HT.out.later HBw.out) hc
      have C := Lib.hid (below_any A' (ca - c) (t.drop c) (l.getD i 0) wr hTP)
      rw [List.length_drop] at C
      clear hTP
      rcases bel_cases (t.drop c) (l.getD i 0) with ⟨e, he, hbe⟩ | ⟨x, u, hbe, hx, hu, _⟩
      · have E : Hid (mny t l = ([], 0, e)) := mrel_fail HR.out hlt2 hbe (by omega)
        rw [hbe] at C
        generalize l.getD i 0 = n at *
        clear hbe
        unfold tup at C
        rcases he with rfl | rfl
        all_goals
          go_wp2_with fail
          refine C.out.mono ?_
          rintro e w' ⟨rfl, rfl⟩
          go_wp2
          go_ret3
          exact ⟨none, 0, by rw [E.out]; rfl, by rw [E.out]; exact ⟨Il.nil, by simp, by omega, fun _ => rfl⟩, HBw.out⟩
      · have E := Lib.hid (mrel_step HR.out hlt2 hbe)
        obtain ⟨hcl, hfz⟩ := mrel_cell HR.out hlt2
        rw [hbe] at C
        generalize l.getD i 0 = n at *
        have hu2 : c + u ≤ t.length := by simp at hu; omega
        clear hbe hu
        unfold tup at C
        go_wp2_with fail
        refine C.out.mono ?_
        rintro e w' ⟨rfl, rfl⟩
        go_wp2
        go_roundw
        case rel => exact ⟨i + 1, c + u, by omega, by omega, by go_num, by go_num, E.out⟩
        case measure => simp [intOf]; omega
    · obtain rfl : l.length = i := by omega
      obtain ⟨xs, hxl, hm, hB, _⟩ := mrel_end HR.out
      have E := Lib.hid hm
      have XL := Lib.hid hxl
      have V := Lib.hid hB.vs
      clear hxl hm hB
      go_wp2
      go_ret3
      exact ⟨some ⟨w.heap.size, 0, none⟩, l.length, by rw [E.out, ← XL.out]; rfl, by rw [E.out]; exact ⟨V.out, by simp only []; rw [XL.out]; exact Nat.le_refl _, by omega, fun h => by cases h⟩, HBw.out⟩
end Go.Proofs.Ytdfhlmacdgmpmaa
