/- slices.Clone of bits, lotdrawerkeep.gcd, and turning all bits of a tape of one's own. -/
import Derived.Test.YtkfpomeemcmfmaaBi
import Derived.Laws.AppendOwn
import Derived.Laws.IdiomCopy
import Derived.Lib.SliceRun
import Derived.Deep.QuietTactic
import Derived.BigQuiet
import Derived.WalkSmall
namespace Go.Proofs.Ytkfpomeemcmfmaa
open Go.RowKit Go.Deep

/-- A tape of the call's own, k of whose bits are turned. -/
def NRel (w : World) (R : Option Addr) (cap : Nat) (t : List Bool) (k : Nat) (wr : World) : Prop :=
  Below w.heap.size w wr ∧ cap ≤ 9223372036854775807 ∧ t.length ≤ cap ∧ ((R = none ∧ cap = 0 ∧ t = []) ∨ ∃ (g : Nat) (ys : List Value), R = some ⟨g, 0, none⟩ ∧ w.heap.size ≤ g ∧ Bs 4 wr g ys ∧ ys.length = cap ∧ ys.take t.length = bvs ((t.take k).map not ++ t.drop k))
def NPost (w : World) (t : List Bool) (e : Ending) (w' : World) : Prop := ∃ R cap, e = .returned (.slice R t.length cap) ∧ NRel w R cap t 0 w'

theorem nrel_step {w wr : World} {R : Option Addr} {cap k : Nat} {t : List Bool} (h : NRel w R cap t k wr) (hk : k < t.length) :
    ∃ g, R = some ⟨g, 0, none⟩ ∧ wr.cell? ⟨g, k, none⟩ = some (.bool (t.getD k false)) ∧ wr.frozen? ⟨g, k, none⟩ = false ∧ NRel w R cap t (k + 1) (wr.setCell ⟨g, k, none⟩ (.bool (!t.getD k false))) := by
  obtain ⟨hB, hc, hl, h | ⟨g, ys, rfl, hg, hBs, hy, ht⟩⟩ := h
  · rw [h.2.2] at hk; simp at hk
  · have hky : k < ys.length := by omega
    refine ⟨g, rfl, ?_, hBs.frozen k, hB.setCell hg _, hc, hl, .inr ⟨g, ys.set k (.bool (!t.getD k false)), rfl, hg, hBs.set k _, by simpa using hy, ?_⟩⟩
    · rw [hBs.cell hky]
      have : (ys.take t.length)[k]? = (bvs ((t.take k).map not ++ t.drop k))[k]? := by rw [ht]
      rw [List.getElem?_take, if_pos hk] at this
      rw [this]
      simp [bvs, List.getElem?_append, hk, List.getD_eq_getElem?_getD, show min k t.length = k by omega]
    · rw [List.take_set, ht]
      unfold bvs
      rw [← List.map_set (f := Value.bool)]
      congr 1
      rw [List.set_append_right _ _ (by simp; omega)]
      have e1 : ((t.take k).map not).length = k := by simp; omega
      rw [e1, Nat.sub_self, List.drop_eq_getElem_cons hk, List.set_cons_zero, List.take_succ_eq_append_getElem hk, List.map_append, List.append_assoc]
      simp [List.getD_eq_getElem?_getD, hk]
theorem nrel_end {w wr : World} {R : Option Addr} {cap : Nat} {t : List Bool} (h : NRel w R cap t t.length wr) (hs : t.length ≤ 4611686018427387904) : TP wr R cap (t.map not) := by
  obtain ⟨hB, hc, hl, h | ⟨g, ys, rfl, hg, hBs, hy, ht⟩⟩ := h
  · obtain ⟨rfl, rfl, rfl⟩ := h
    exact ⟨Tp.nil, by simp, by omega, by simp, fun _ => rfl⟩
  · rw [List.take_length, List.drop_length, List.append_nil] at ht
    refine ⟨?_, by simpa using hl, hc, by simpa using hs, fun h => by cases h⟩
    have := hBs.vs.take t.length
    rw [ht] at this
    exact this

set_option maxRecDepth 100000 in
set_option maxHeartbeats 2000000 in
theorem clone_any (A : Option Addr) (ca : Nat) (t : List Bool) (w : World) (ht : TP w A ca t) (hb : t.length ≤ 140737488355328) :
    Calls Try.prog 19 #[.slice A t.length ca] w (NPost w t) := by
  have q22 : ∀ (w : World) (a : Option Addr) (n c n' c' : Nat), (binOp .eql 22 (.slice a n c) (.slice none n' c')).run Try.prog w = .ok (.bool a.isNone) w := fun w a n c n' c' => Lib.run_eql_slice_nil w _ _ a n c n' c' Try.underlying22
  cases A with
  | none =>
    have h1 := ht.none rfl
    have h2 := ht.le
    have : t = [] := List.eq_nil_of_length_eq_zero (by omega)
    subst this h1
    clear ht h2 hb
    go_enter Try.func19, Try.ntmps19
    go_wp2
    go_ret
    exact ⟨none, 0, rfl, Below.refl _ _, by omega, by simp, .inl ⟨rfl, rfl, rfl⟩⟩
  | some a =>
    obtain ⟨i0, hi0, hz0, hz1, hz2⟩ := info_parts info_bool
    have H := Lib.hid ht.tp
    clear ht
    go_enter Try.func19, Try.ntmps19
    go_wp2_with (at_builtin; refine wpList_append_own _ rfl _ _ 22 rfl w.heap.size 4 i0 (.bool false) 1 1 Try.underlying22 hi0 hz0 hz1 hz2 rfl (by decide) _ _ _ rfl (World.ownsRow_made w #[] 0 (Nat.le_refl _) (Nat.zero_le _) rfl) a t.length ca (bvs t) rfl ?qc1 ?qc2 ?qc3 ?qc4 ?qc5 ?qc6 ?_)
    case qc1 => simp [bvs]
    case qc2 =>
      intro j u hj
      have hj2 : j < t.length := by have := (List.getElem?_eq_some_iff.1 hj).1; rwa [bvs_len] at this
      obtain ⟨b, off, e, _, hc⟩ := H.out.at (by omega)
      simp only [Option.some.injEq] at e
      subst e
      rw [Addr.add_lit]
      refine Lib.cell?_alloc_some _ ?_
      rw [hc j hj2, ← hj, bvs_at hj2]
    case qc3 => intro u hu; obtain ⟨x, _, rfl⟩ := List.mem_map.1 hu; rfl
    case qc4 => unfold maxLen; omega
    case qc5 => omega
    case qc6 => simp
    intro v' w1 hown hgrow hnil
    go_wp2
    go_ret
    have hB : Below w.heap.size w w1 := ((Below.refl _ w).alloc (Nat.le_refl _) _).grown hgrow (by simp) (by intro k hk; simp [Value.ownBlock] at hk; omega)
    rcases hown.2 with ⟨rfl, h0⟩ | ⟨g, cap, cur, rfl, hg, hgb, hc, hcm, hcs, htk⟩
    · exact absurd rfl hnil
    · refine ⟨some ⟨g, 0, none⟩, cap, by simp, hB, by unfold maxLen at hcm; omega, by omega, .inr ⟨g, cur.toList, rfl, hg, by simpa [Bs] using hgb, by simpa using hcs, ?_⟩⟩
      simpa using htk

set_option maxHeartbeats 1000000 in
theorem gcd_any (a b : Nat) (w : World) (ha : a ≤ 9223372036854775807) (hb : b ≤ 9223372036854775807) :
    Calls Try.prog 20 #[.int .i64 a, .int .i64 b] w fun e w' => e = .returned (.int .i64 (Nat.gcd a b : Nat)) ∧ Below w.heap.size w w' := by
  go_enter Try.func20, Try.ntmps20
  go_wp2
  go_loopw [0, 1] (fun xv yv wr => ∃ x y : Nat, x ≤ 9223372036854775807 ∧ y ≤ 9223372036854775807 ∧ xv = .int .i64 x ∧ yv = .int .i64 y ∧ Nat.gcd x y = Nat.gcd a b ∧ Below w.heap.size w wr) (fun _ yv _ => (intOf yv).toNat)
  case atStart => exact ⟨a, b, ha, hb, rfl, rfl, rfl, Below.refl _ _⟩
  case round =>
    obtain ⟨x, y, hx, hy, rfl, rfl, hG, hB⟩ := hrel
    have HG := Lib.hid hG
    have HB := Lib.hid hB
    clear hG hB
    by_cases h0 : y = 0
    · subst h0
      have E : Hid (Nat.gcd a b = x) := by show Nat.gcd a b = x; rw [← HG.out, Nat.gcd_zero_right]
      clear HG
      go_wp2
      go_ret
      exact ⟨by rw [E.out]; rfl, HB.out⟩
    · have E : Hid (Nat.gcd y (x % y) = Nat.gcd a b) := by show Nat.gcd y (x % y) = _; rw [← HG.out, Nat.gcd_comm x y, Nat.gcd_rec y x, Nat.gcd_comm]
      have hlt : x % y < y := Nat.mod_lt _ (by omega)
      have hne : ((y : Int) == 0) = false := eqz_no h0
      have e1 : (x : Int).tmod (y : Int) = ((x % y : Nat) : Int) := by rw [Int.ofNat_tmod]
      clear HG
      generalize x % y = z at *
      go_wp2
      go_quiet (fail)
      go_wp2
      go_roundw
      case rel => exact ⟨y, z, by omega, by omega, rfl, by go_num, E.out, below_drewN HB.out _⟩
      case measure => simp [intOf]; omega
end Go.Proofs.Ytkfpomeemcmfmaa
