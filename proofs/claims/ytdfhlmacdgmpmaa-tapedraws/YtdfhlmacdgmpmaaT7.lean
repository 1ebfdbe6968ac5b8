/- lotdrawerref.BMany. -/
import Derived.Test.YtdfhlmacdgmpmaaT3
import Derived.Test.YtdfhlmacdgmpmaaT6
import Derived.Deep.RegionHeld3
import Derived.Deep.AppendLies
import Derived.Deep.DrawnRows
namespace Go.Proofs.Ytdfhlmacdgmpmaa
open Go.RowKit Go.Deep

/-- What stands in the loop of BMany. -/
def BRel (w : World) (t : List Bool) (l : List Int) (ca i c : Nat) (A : Option Addr) (v : Value) (wr : World) : Prop :=
  ∃ xs : List Int, xs.length = i ∧ mny t l = comb xs c (mny (t.drop c) (l.drop i)) ∧ wr.ownsRow w.heap.size 3 1 v i (ivs xs) ∧ TP w A (ca - c) (t.drop c) ∧ Below w.heap.size w wr

theorem brel_start (w : World) (t : List Bool) (l : List Int) (ca : Nat) (A : Option Addr) (h : TP w A ca t) : BRel w t l ca 0 0 A (.slice none 0 0) w :=
  ⟨[], rfl, by simp [comb_nil], World.ownsRow_nil _ _ _ _, by simpa using h, Below.refl _ _⟩
theorem brel_fail {w wr : World} {t : List Bool} {l : List Int} {ca i c : Nat} {A : Option Addr} {v : Value} {e : Int} (h : BRel w t l ca i c A v wr) (hi : i < l.length) (hb : bel (t.drop c) (l.getD i 0) = (0, 0, e)) (he : e ≠ 0) : mny t l = ([], 0, e) := by
  obtain ⟨xs, hl, hm, _, _⟩ := h
  have e1 : l.drop i = l.getD i 0 :: l.drop (i + 1) := by
    rw [List.drop_eq_getElem_cons hi]; simp [List.getD_eq_getElem?_getD, hi]
  rw [hm, e1, comb_fail hb he]
theorem brel_step {w w1 : World} {t : List Bool} {l : List Int} {ca i c x u : Nat} {A' : Option Addr} {v' : Value} {xs : List Int} (hm : mny t l = comb xs c (mny (t.drop c) (l.drop i))) (hl : xs.length = i) (hi : i < l.length)
    (hb : bel (t.drop c) (l.getD i 0) = ((x : Int), (u : Int), (0 : Int))) (ho : w1.ownsRow w.heap.size 3 1 v' (i + 1) (ivs xs ++ [.int .i64 (x : Int)])) (hT : TP w A' (ca - c - u) ((t.drop c).drop u)) (hB1 : Below w.heap.size w w1) :
    BRel w t l ca (i + 1) (c + u) A' v' w1 := by
  refine ⟨xs ++ [(x : Int)], by simp [hl], ?_, ?_, by rw [List.drop_drop, Nat.sub_sub] at hT; exact hT, hB1⟩
  · have e : l.drop i = l.getD i 0 :: l.drop (i + 1) := by
      rw [List.drop_eq_getElem_cons hi]; simp [List.getD_eq_getElem?_getD, hi]
    rw [hm, e, comb_step hb, List.drop_drop]
  · simpa [ivs] using ho
theorem brel_end {w wr : World} {t : List Bool} {l : List Int} {ca c : Nat} {A : Option Addr} {v : Value} (h : BRel w t l ca l.length c A v wr) : ∃ (xs : List Int) (R : Option Addr) (cr : Nat), v = .slice R xs.length cr ∧ IP wr R cr xs ∧ mny t l = (xs, (c : Int), 0) := by
  obtain ⟨xs, hl, hm, ho, hT, hB⟩ := h
  rw [List.drop_length, comb_end] at hm
  rcases ho.2 with ⟨rfl, h0⟩ | ⟨g, cap, cur, rfl, _, hg, hc, hcm, _, _⟩
  · have : xs = [] := List.eq_nil_of_length_eq_zero (by omega)
    subst this
    exact ⟨[], none, 0, rfl, ⟨Il.nil, by simp, by omega, fun _ => rfl⟩, hm⟩
  · refine ⟨xs, some ⟨g, 0, none⟩, cap, by rw [hl], ⟨?_, by omega, by unfold maxLen at hcm; omega, fun h => by cases h⟩, hm⟩
    intro h0
    refine ⟨g, 0, rfl, lt_of_block hg, fun j hj => ?_⟩
    rw [Nat.zero_add]
    exact ho.cellAt j (by rw [ivs_len] at hj; omega)

attribute [local go_sem ↓] Go.wp_at_zero Go.wp_at_succ

set_option maxRecDepth 100000 in
set_option maxHeartbeats 2000000 in
theorem bmany_any (A B : Option Addr) (ca cb : Nat) (t : List Bool) (l : List Int) (w : World) (ht : TP w A ca t) (hl : IP w B cb l) (hb : l.length * 8 ≤ 140737488355328) :
    Calls Try.prog 11 #[.slice A t.length ca, .slice B l.length cb] w (MPost w (mny t l)) := by
  have hlt := ht.short
  have HS := Lib.hid (brel_start w t l ca A ht)
  have HL := Lib.hid hl
  clear ht hl
  obtain ⟨i0, hi0, hz0, hz1, hz2⟩ := info_parts info_int
  go_enter Try.func11, Try.ntmps11
  go_wp2_with fail
  go_loopw [7, 8, 17] (fun sv rv iv wr => ∃ (v : Value) (i c : Nat) (A' : Option Addr), v = sv ∧ i ≤ l.length ∧ c ≤ t.length ∧ rv = .slice A' (t.length - c) (ca - c) ∧ iv = .int .i64 i ∧ BRel w t l ca i c A' v wr) (fun _ _ iv _ => l.length - (intOf iv).toNat)
  case atStart => exact ⟨_, 0, 0, A, rfl, by omega, by omega, rfl, rfl, HS.out⟩
  case round =>
    clear HS
    obtain ⟨v, i, c, A', rfl, hi, hc, rfl, rfl, hR⟩ := hrel
    have HR := Lib.hid hR
    clear hR
    have HBw : Hid (Below w.heap.size w wr) := by obtain ⟨_, _, _, _, _, h⟩ := HR.out; exact h
    by_cases hlt2 : i < l.length
    · obtain ⟨b, off, rfl, _, hcell⟩ := (HL.out.il.later HBw.out).at (by omega)
      have hci := hcell i hlt2
      clear hcell
      have HT : Hid (TP w A' (ca - c) (t.drop c)) := by obtain ⟨_, _, _, _, h, _⟩ := HR.out; exact h
      have C := Lib.hid (bbelow_any A' (ca - c) (t.drop c) (l.getD i 0) wr (HT.out.later HBw.out))
      rw [List.length_drop] at C
      rcases bel_cases (t.drop c) (l.getD i 0) with ⟨e, he, hbe⟩ | ⟨x, u, hbe, hx, hu, _⟩
      · have E : Hid (mny t l = ([], 0, e)) := brel_fail HR.out hlt2 hbe (by omega)
        rw [hbe] at C
        generalize l.getD i 0 = n at *
        clear hbe
        unfold tup at C
        rcases he with rfl | rfl
        all_goals
          go_wp2_with fail
          refine C.out.mono ?_
          rintro e w' ⟨rfl, rfl⟩
          go_wp2
          go_ret3
          exact ⟨none, 0, by rw [E.out]; rfl, by rw [E.out]; exact ⟨Il.nil, by simp, by omega, fun _ => rfl⟩, HBw.out⟩
      · obtain ⟨xs, hxl, hm, ho, _, _⟩ := HR.out
        obtain ⟨A2, hA2, hTP2⟩ := tail_tp HT.out hu
        have E : Hid (∀ v' w1, w1.ownsRow w.heap.size 3 1 v' (i + 1) (ivs xs ++ [.int .i64 (x : Int)]) → Below w.heap.size w w1 → BRel w t l ca (i + 1) (c + u) A2 v' w1) := fun v' w1 h1 h2 => brel_step hm hxl hlt2 hbe h1 hTP2 h2
        have HO := Lib.hid ho
        have hov : Hid (∀ k, v.ownBlock = some k → w.heap.size ≤ k) := fun k hk => (ho.lt k hk).1
        rw [hbe] at C
        generalize l.getD i 0 = n at *
        have hu2 : c + u ≤ t.length := by simp at hu; omega
        have i1 : (0 : Int) ≤ (u : Int) := by omega
        have i2 : (u : Int) ≤ ((t.length - c : Nat) : Int) := by omega
        clear hbe hu hm ho hTP2 hxl HR HT
        unfold tup at C
        go_wp2_with fail
        refine C.out.mono ?_
        rintro e w' ⟨rfl, rfl⟩
        clear C
        go_wp2_with fail
        go_region_held3 (fun _ => True) (trivial)
          ((refine step_append_lies _ (by rfl) _ _ _ (by rfl) w.heap.size 3 i0 _ 1 8 Try.underlying23 hi0 hz0 hz1 hz2 rfl (by omega) v i (ivs xs) (by rfl) ((HO.out.alloc _).drew) ⟨wr.heap.size, 0, none⟩ 1 1 [.int .i64 (x : Int)] (by rfl) (by rfl) (World.news_of_block (cs := #[.int .i64 (x : Int)]) (t := 3) (fr := (0, 0)) (heap_alloc_new wr _)) (by simp [Value.oneCell']) (by omega) (by unfold maxLen; omega) (by omega) (by have := HBw.out.size; simp; omega) (wr.heap.size + 1) (by simp) ?_; intro gg cap w1 hown1 hgrow hat hlt1))
        have hsz := HBw.out.size
        have HB1 : Hid (Below w.heap.size w w1) := ((HBw.out.alloc hsz _).drew).grown hgrow (by simp; omega) hov.out
        have HO1 := Lib.hid hown1
        clear hown1 hgrow hat hlt1 hsz
        go_wp2
        go_roundw
        case rel => exact ⟨_, i + 1, c + u, A2, rfl, by omega, by omega, by rw [Nat.sub_sub, Nat.sub_sub], by go_num, E.out _ _ HO1.out HB1.out⟩
        case measure => simp [intOf]; omega
    · obtain rfl : l.length = i := by omega
      obtain ⟨xs, R, cr, rfl, hIP, hm⟩ := brel_end HR.out
      have E := Lib.hid hm
      have HIP := Lib.hid hIP
      clear hIP hm
      go_wp2
      go_ret3
      exact ⟨R, cr, by rw [E.out]; unfold mtup; simp only []; rw [show (t.length : Int) - ((t.length - c : Nat) : Int) = (c : Int) by omega]; rfl, by rw [E.out]; exact HIP.out, HBw.out⟩
end Go.Proofs.Ytdfhlmacdgmpmaa
