/- slices.Grow of a nil slice, slices.Concat of any number of slices: element type uint64. -/
import Derived.Test.YtnihcpaakbhpcaaU0
import Derived.Test.YtnihcpaakbhpcaaAp
import Derived.Lib.AppendZerosOnto
import Derived.Deep.AppendSrc
namespace Go.Proofs.Ytnihcpaakbhpcaa
open Go.RowKit Go.Deep

theorem zeros_u64 (n m : Nat) : (Builtin.zeroCells ((.int .u64 0) : Value).cells n ++ Builtin.zeroCells ((.int .u64 0) : Value).cells m) = (List.replicate (n + m) ((.int .u64 0) : Value)).toArray := by
  apply Array.ext'
  simp only [Array.toList_append, Builtin.zeroCells, Value.cells]
  rw [← List.replicate_append_replicate]
  congr 1
  all_goals
    apply List.ext_getElem
    · simp
    · intro i h1 h2
      simp [Nat.mod_one]

def GPost_u64 (n : Nat) (w : World) (e : Ending) (w' : World) : Prop :=
  (n = 0 ∧ e = .returned (.slice none 0 0) ∧ w = w') ∨ (0 < n ∧ ∃ cap, n ≤ cap ∧ cap ≤ maxLen ∧ e = .returned (.slice (some ⟨w.heap.size, 0, none⟩) 0 cap) ∧ Bs 22 w' w.heap.size (List.replicate cap (.int .u64 0)) ∧ Below w.heap.size w w')
set_option maxRecDepth 100000 in
set_option maxHeartbeats 1000000 in
theorem grow_u64 (n : Nat) (w : World) (hn : n * 8 ≤ 281474976710656) :
    Calls Try.prog 43 #[.slice none 0 0, .int .i64 n] w (GPost_u64 n w) := by
  by_cases h0 : n = 0
  · subst h0
    go_enter Try.func43, Try.ntmps43
    go_wp2
    go_ret
    exact .inl ⟨rfl, rfl, rfl⟩
  · obtain ⟨i0, hi0, hz0, hz1, hz2⟩ := info_parts info_u64
    have hrz : ∀ ty, (Builtin.append_ #[25, 3] ty #[.slice none 0 0, .int .i64 (n : Int)]).run Try.prog w = _ := fun ty => Lib.run_append_nil_zeros w 25 3 ty 22 i0 (.int .u64 0) .i64 .i64 Try.underlying25 Try.underlying3 hi0 hz0 n (by omega) (by omega) (by omega) (by rw [hz2]; omega)
    have hge := grownCap_ge w n 0 22
    have hle := grownCap_le_maxLen w n 0 22 (by unfold maxLen; omega)
    have HB : Hid (∀ G, grownCap w n 0 22 = G → Bs 22 (w.drew.alloc (.cells (Builtin.zeroCells ((.int .u64 0) : Value).cells n ++ Builtin.zeroCells ((.int .u64 0) : Value).cells (G - n)) 22)) w.heap.size (List.replicate G (.int .u64 0))) := fun G hG => by
      rw [zeros_u64]
      have e : n + (G - n) = G := by omega
      rw [e]
      exact heap_alloc_new w.drew _
    generalize hG : grownCap w n 0 22 = G at *
    have HB2 := Lib.hid (HB.out G rfl)
    have hle' : G ≤ 9223372036854775807 := by unfold maxLen at hle; exact hle
    have hG0 : 0 < G := by omega
    have HBl : Hid (Below w.heap.size w (w.drew.alloc (.cells (Builtin.zeroCells ((.int .u64 0) : Value).cells n ++ Builtin.zeroCells ((.int .u64 0) : Value).cells (G - n)) 22))) := (Below.refl _ _).drew.alloc (Nat.le_refl _) _
    clear hG HB hle
    go_enter Try.func43, Try.ntmps43
    have HZ := Lib.hid hrz
    clear hrz
    go_wp2_with (at_builtin; refine wpList_append_run (by rfl) _ _ _ _ (by rfl) _ _ _ (by rfl) (by rfl) HZ.out ?_)
    go_ret
    exact .inr ⟨by omega, G, hge, by unfold maxLen; omega, rfl, HB2.out, HBl.out⟩

/-- The slice that Concat fills: so much is done, of room for tot. -/
def CRel_u64 (w : World) (tot : Nat) (v : Value) (done : List Value) (wr : World) : Prop :=
  Below w.heap.size w wr ∧ ((tot = 0 ∧ v = .slice none 0 0 ∧ done = []) ∨
  ∃ (g : Nat) (cur : List Value), v = .slice (some ⟨g, 0, none⟩) done.length cur.length ∧ w.heap.size ≤ g ∧ Bs 22 wr g cur ∧ tot ≤ cur.length ∧ cur.length ≤ maxLen ∧ cur.take done.length = done)
theorem crel_start_u64 {n : Nat} {w : World} {e : Ending} {w' : World} (h : GPost_u64 n w e w') : ∃ v, e = .returned v ∧ CRel_u64 w n v [] w' := by
  rcases h with ⟨h0, rfl, rfl⟩ | ⟨h0, cap, h1, h2, rfl, hB, hb⟩
  · exact ⟨_, rfl, Below.refl _ _, .inl ⟨h0, rfl, rfl⟩⟩
  · exact ⟨_, rfl, hb, .inr ⟨w.heap.size, List.replicate cap (.int .u64 0), by simp, Nat.le_refl _, hB, by simpa using h1, by simpa using h2, rfl⟩⟩
theorem crel_app_u64 {w wr : World} {tot : Nat} {v : Value} {done xs : List Value} {A : Option Addr} {c : Nat} (h : CRel_u64 w tot v done wr) (hx : Vs wr A xs) (hl : done.length + xs.length ≤ tot) (h1 : ∀ u ∈ xs, u.oneCell' = true) (hA : A = none → xs = []) :
    ∃ v' w', (∀ ty, (Builtin.append_ #[25, 25] ty #[v, .slice A xs.length c]).run Try.prog wr = .ok v' w') ∧ CRel_u64 w tot v' (done ++ xs) w' := by
  obtain ⟨i0, hi0, hz0, hz1, hz2⟩ := info_parts info_u64
  obtain ⟨hb, h⟩ := h
  rcases h with ⟨h0, rfl, rfl⟩ | ⟨g, cur, rfl, hg, hB, hc1, hc2, hc3⟩
  · have : xs = [] := List.eq_nil_of_length_eq_zero (by omega)
    subst this
    refine ⟨.slice none 0 0, wr, fun ty => ?_, hb, .inl ⟨h0, rfl, rfl⟩⟩
    simp [Builtin.append_, run_underlying Try.underlying25, Go.sizeOf, typeInfo, hi0, Builtin.lenOf, Builtin.firstCells, loadCells, loadCellsFrom]
    cases A <;> simp [loadCells, loadCellsFrom]
  · have src : Src Try.prog i0.size 25 (.slice A xs.length c) xs.length xs wr := by
      cases A with
      | none =>
        have := hA rfl
        subst this
        exact Src.ofNil wr Try.underlying25 c
      | some a =>
        refine Src.ofSlice wr Try.underlying25 a xs.length c xs (by rw [hz1, Nat.mul_one]) (fun j u hu => ?_) h1
        have hj : j < xs.length := (List.getElem?_eq_some_iff.1 hu).1
        obtain ⟨b, off, e, _, hcell⟩ := hx (by omega)
        simp only [Option.some.injEq] at e
        subst e
        rw [Addr.add_lit, hcell j hj, hu]
    have hr := fun ty => run_append_room_src (P := Try.prog) wr 25 25 ty 22 i0 Try.underlying25 hi0 g 0 done.length cur.length (.slice A xs.length c) xs.length xs src (by omega)
      (fun j hj => by rw [hz1, hB.cell (by omega)]; simp; omega) (fun j hj => hB.frozen _)
    refine ⟨_, _, hr, below_put hg xs _ hb, .inr ⟨g, putL cur done.length xs, by rw [putL_len, List.length_append], hg, ?_, by rw [putL_len]; exact hc1, by rw [putL_len]; exact hc2, ?_⟩⟩
    · rw [hz1, Nat.zero_add, Nat.mul_one]; exact hB.put xs _
    · rw [List.length_append, putL_take _ _ _ (by omega), hc3]
theorem crel_end_u64 {w wr : World} {tot : Nat} {v : Value} {done : List Value} (h : CRel_u64 w tot v done wr) (hl : done.length = tot) : ∃ R cr, v = .slice R done.length cr ∧ Vs wr R done ∧ done.length ≤ cr ∧ cr ≤ 9223372036854775807 ∧ (R = none → cr = 0) ∧ Below w.heap.size w wr := by
  obtain ⟨hb, h⟩ := h
  rcases h with ⟨h0, rfl, rfl⟩ | ⟨g, cur, rfl, hg, hB, hc1, hc2, hc3⟩
  · exact ⟨none, 0, rfl, Vs.nil, by simp, by omega, fun _ => rfl, hb⟩
  · refine ⟨_, _, rfl, ?_, by omega, by unfold maxLen at hc2; omega, fun h => (by cases h), hb⟩
    have := Vs.take hB.vs done.length
    rwa [hc3] at this


/-- A slice that is a part of what Concat puts together: where it lies, its room, what it holds. -/
abbrev CPt := Option Addr × Nat × List Value
def PtOk (w : World) (q : CPt) : Prop := Vs w q.1 q.2.2 ∧ (∀ u ∈ q.2.2, u.oneCell' = true) ∧ (q.1 = none → q.2.2 = [])
def sl (qs : List CPt) (k : Nat) : List Value := ((qs.take k).map (·.2.2)).flatten
theorem sl_zero (qs : List CPt) : sl qs 0 = [] := rfl
theorem sl_succ {qs : List CPt} {k : Nat} (h : k < qs.length) : sl qs (k + 1) = sl qs k ++ (qs[k]).2.2 := by
  unfold sl
  have e : qs.take (k + 1) = qs.take k ++ [qs[k]] := by rw [List.take_add_one]; simp [h]
  rw [e, List.map_append, List.flatten_append]
  simp
theorem sl_all (qs : List CPt) : sl qs qs.length = (qs.map (·.2.2)).flatten := by unfold sl; rw [List.take_length]
theorem sl_le {qs : List CPt} (k : Nat) : (sl qs k).length ≤ (sl qs qs.length).length := by
  unfold sl
  rw [List.take_length]
  have : qs = qs.take k ++ qs.drop k := (List.take_append_drop k qs).symm
  conv => rhs; rw [this]
  simp only [List.map_append, List.flatten_append, List.length_append]
  omega
def CcR_u64 (w : World) (vs : List Value) (e : Ending) (w' : World) : Prop := ∃ v, e = .returned v ∧ CRel_u64 w vs.length v vs w'

set_option maxRecDepth 100000 in
set_option maxHeartbeats 2000000 in
theorem concat_rel_u64 (g N : Nat) (qs : List CPt) (hN : qs.length = N) (hN2 : N ≤ 100) (w : World) (hg : g < w.heap.size) (hq : ∀ k (h : k < qs.length), w.cell? ⟨g, k, none⟩ = some (.slice (qs[k]).1 (qs[k]).2.2.length (qs[k]).2.1) ∧ PtOk w qs[k])
    (hb : (sl qs qs.length).length * 8 ≤ 281474976710656) :
    Calls Try.prog 25 #[.slice (some ⟨g, 0, none⟩) N N] w (CcR_u64 w (sl qs qs.length)) := by
  obtain ⟨tot, htot⟩ : ∃ tot, (sl qs qs.length).length = tot := ⟨_, rfl⟩
  rw [htot] at hb
  have C := Lib.hid (grow_u64 tot w hb)
  have HTOT := Lib.hid htot
  have Q := Lib.hid hq
  have HL : Hid (∀ k, (sl qs k).length ≤ tot) := fun k => by rw [← HTOT.out]; exact sl_le k
  have HN : Hid (qs.length = N) := hN
  clear hq htot hN
  go_enter Try.func25, Try.ntmps25
  go_wp2_with fail
  go_loop [3, 11] (fun s i => ∃ k t : Nat, k ≤ N ∧ i = .int .i64 k ∧ s = .int .i64 t ∧ t = (sl qs k).length) (fun _ i => N - (intOf i).toNat)
  case atStart => exact ⟨0, 0, by omega, rfl, rfl, rfl⟩
  case round =>
    obtain ⟨k, t, hk, rfl, rfl, ht⟩ := hrel
    have ht2 : t ≤ tot := by rw [ht]; exact HL.out k
    have HT := Lib.hid ht
    clear ht
    by_cases hlt : k < N
    · have hlq : k < qs.length := by rw [HN.out]; exact hlt
      have hc := (Q.out k hlq).1
      have hs2 : t + (qs[k]).2.2.length = (sl qs (k + 1)).length := by rw [sl_succ hlq, List.length_append, HT.out]
      have hs3 : t + (qs[k]).2.2.length ≤ tot := by rw [hs2]; exact HL.out (k + 1)
      have HS := Lib.hid hs2
      have i1 : (k : Int) < (N : Int) := by omega
      clear hs2
      generalize (qs[k]).1 = A1 at *
      generalize (qs[k]).2.1 = c1 at *
      generalize (qs[k]).2.2.length = n1 at *
      clear hlq
      go_wp2
      go_round
      case rel => exact ⟨k + 1, t + n1, by omega, by go_num, by go_num, HS.out⟩
      case measure => simp [intOf]; omega
    · obtain rfl : k = N := by omega
      have htt : t = tot := by rw [HT.out, ← HN.out]; exact HTOT.out
      subst htt
      clear HT
      go_wp2_with fail
      refine C.out.mono ?_
      intro e w1 hp
      obtain ⟨v0, rfl, hC⟩ := crel_start_u64 hp
      have HC := Lib.hid hC
      clear hp hC C
      go_wp2_with fail
      go_loopw [6, 27] (fun sv i wr => ∃ (v : Value) (j : Nat), v = sv ∧ i = .int .i64 j ∧ j ≤ k ∧ CRel_u64 w t v (sl qs j) wr) (fun _ i _ => k - (intOf i).toNat)
      case atStart => exact ⟨v0, 0, rfl, rfl, by omega, HC.out⟩
      case round =>
        clear HC
        obtain ⟨v, j, rfl, rfl, hj, hC⟩ := hrel
        by_cases hlt : j < k
        · have hlq : j < qs.length := by rw [HN.out]; exact hlt
          have hB := hC.1
          obtain ⟨q1, q2, q3, q4⟩ := Q.out j hlq
          have hc := (hB.cell (p := ⟨g, j, none⟩) hg).trans q1
          have hl := HL.out (j + 1)
          rw [sl_succ hlq, List.length_append] at hl
          obtain ⟨v', w', hr, hC'⟩ := crel_app_u64 (c := (qs[j]).2.1) hC (q2.later hB) hl q3 q4
          rw [← sl_succ hlq] at hC'
          have HR := Lib.hid hr
          have HC := Lib.hid hC'
          have i1 : (j : Int) < (k : Int) := by omega
          clear hB hr hC' hC hl q1 q2 q3 q4
          generalize (qs[j]).1 = A1 at *
          generalize (qs[j]).2.1 = c1 at *
          generalize (qs[j]).2.2.length = n1 at *
          clear hlq
          go_wp2_with (at_builtin; refine wpList_append_run (by rfl) _ _ _ _ (by rfl) _ _ _ (by rfl) (by rfl) HR.out ?_)
          go_roundw
          case rel => exact ⟨v', j + 1, rfl, by go_num, by omega, HC.out⟩
          case measure => simp [intOf]; omega
        · obtain rfl : j = k := by omega
          have E : Hid (CcR_u64 w (sl qs qs.length) (.returned v) wr) := by
            refine ⟨v, rfl, ?_⟩
            rw [HTOT.out, HN.out]
            exact hC
          clear hC
          go_wp2
          go_ret
          exact E.out
theorem crel_ou {w w' : World} {v : Value} {l : List W64} (h : CRel_u64 w (uvs l).length v (uvs l) w') : OU w' w.heap.size v l ∧ Below w.heap.size w w' := by
  refine ⟨⟨by simp [uvs_len], ?_⟩, h.1⟩
  rcases h.2 with ⟨h0, rfl, _⟩ | ⟨g, cur, rfl, hg, hB, h1, h2, h3⟩
  · rw [uvs_len] at h0
    exact .inl ⟨by rfl, h0⟩
  · rw [uvs_len] at *
    refine .inr ⟨g, cur.length, cur.toArray, rfl, hg, hB, h1, h2, by simp, by simpa using h3⟩
/-- A part that holds words. -/
theorem ptOk_up {w : World} {A : Option Addr} {c : Nat} {l : List W64} (h : UP w A c l) : PtOk w (A, c, uvs l) := by
  refine ⟨h.ul, fun u hu => ?_, fun e => ?_⟩
  · obtain ⟨x, _, rfl⟩ := List.mem_map.1 hu
    rfl
  · have h1 := h.none e
    have h2 := h.le
    have : l = [] := List.eq_nil_of_length_eq_zero (by omega)
    show uvs l = []
    rw [this]; rfl
theorem concat2_any (g : Nat) (A1 A2 : Option Addr) (c1 c2 : Nat) (xs ys : List W64) (w : World) (hg : g < w.heap.size) (k1 : w.cell? ⟨g, 0, none⟩ = some (.slice A1 xs.length c1)) (k2 : w.cell? ⟨g, 1, none⟩ = some (.slice A2 ys.length c2)) (hx : UP w A1 c1 xs) (hy : UP w A2 c2 ys) (hb : (xs.length + ys.length) * 8 ≤ 281474976710656) :
    Calls Try.prog 25 #[.slice (some ⟨g, 0, none⟩) 2 2] w fun e w' => ∃ v, e = .returned v ∧ OU w' w.heap.size v (xs ++ ys) ∧ Below w.heap.size w w' := by
  have hs : sl [(A1, c1, uvs xs), (A2, c2, uvs ys)] 2 = uvs (xs ++ ys) := by simp [sl, uvs]
  refine (concat_rel_u64 g 2 [(A1, c1, uvs xs), (A2, c2, uvs ys)] rfl (by omega) w hg (fun k h => ?_) ?_).mono ?_
  · match k, h with
    | 0, _ => exact ⟨by simpa [uvs_len] using k1, ptOk_up hx⟩
    | 1, _ => exact ⟨by simpa [uvs_len] using k2, ptOk_up hy⟩
  · show (sl _ 2).length * 8 ≤ _
    rw [hs, uvs_len, List.length_append]; exact hb
  · rintro e w' ⟨v, rfl, hC⟩
    obtain ⟨h1, h2⟩ := crel_ou (l := xs ++ ys) (by rw [← hs]; exact hC)
    exact ⟨v, rfl, h1, h2⟩
theorem concat3_any (g : Nat) (A1 A2 A3 : Option Addr) (c1 c2 c3 : Nat) (xs ys zs : List W64) (w : World) (hg : g < w.heap.size) (k1 : w.cell? ⟨g, 0, none⟩ = some (.slice A1 xs.length c1)) (k2 : w.cell? ⟨g, 1, none⟩ = some (.slice A2 ys.length c2)) (k3 : w.cell? ⟨g, 2, none⟩ = some (.slice A3 zs.length c3)) (hx : UP w A1 c1 xs) (hy : UP w A2 c2 ys) (hz : UP w A3 c3 zs) (hb : (xs.length + ys.length + zs.length) * 8 ≤ 281474976710656) :
    Calls Try.prog 25 #[.slice (some ⟨g, 0, none⟩) 3 3] w fun e w' => ∃ v, e = .returned v ∧ OU w' w.heap.size v (xs ++ (ys ++ zs)) ∧ Below w.heap.size w w' := by
  have hs : sl [(A1, c1, uvs xs), (A2, c2, uvs ys), (A3, c3, uvs zs)] 3 = uvs (xs ++ (ys ++ zs)) := by simp [sl, uvs]
  refine (concat_rel_u64 g 3 [(A1, c1, uvs xs), (A2, c2, uvs ys), (A3, c3, uvs zs)] rfl (by omega) w hg (fun k h => ?_) ?_).mono ?_
  · match k, h with
    | 0, _ => exact ⟨by simpa [uvs_len] using k1, ptOk_up hx⟩
    | 1, _ => exact ⟨by simpa [uvs_len] using k2, ptOk_up hy⟩
    | 2, _ => exact ⟨by simpa [uvs_len] using k3, ptOk_up hz⟩
  · show (sl _ 3).length * 8 ≤ _
    rw [hs, uvs_len, List.length_append, List.length_append]; omega
  · rintro e w' ⟨v, rfl, hC⟩
    obtain ⟨h1, h2⟩ := crel_ou (l := xs ++ (ys ++ zs)) (by rw [← hs]; exact hC)
    exact ⟨v, rfl, h1, h2⟩
end Go.Proofs.Ytnihcpaakbhpcaa
