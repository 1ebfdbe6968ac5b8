/- lotdrawerref.HMake's closures. -/
import Derived.Test.YtjhcbjpbmbjgoaaHq
import Derived.Shelf.Abstract
namespace Go.Proofs.Ytjhcbjpbmbjgoaa
open Go.RowKit Go.Deep

theorem enters_f2 (args : Array Value) (w : World) : (callFunc 30 args).run Try.prog w = .ok (.enter 30 args) w := enters_of Try.func30 (by kernel_rfl) rfl args w
theorem enters_f3 (args : Array Value) (w : World) : (callFunc 31 args).run Try.prog w = .ok (.enter 31 args) w := enters_of Try.func31 (by kernel_rfl) rfl args w
theorem enters_f1 (args : Array Value) (w : World) : (callFunc 29 args).run Try.prog w = .ok (.enter 29 args) w := enters_of Try.func29 (by kernel_rfl) rfl args w
set_option maxRecDepth 100000 in
theorem less_any (h l t s : Int) (o : Bool) (g : Nat) (w : World) (hg : w.cell? ⟨g, 0, none⟩ = some (.int .i64 s)) (hlt : g < w.heap.size) :
    Calls Try.prog 30 #[.agg #[.int .i64 h, .int .i64 l, .int .i64 t, .bool o], .pointer (some ⟨g, 0, none⟩)] w fun e w' => e = .returned (.bool (decide (h < s))) ∧ Below w.heap.size w w' := by
  have hg2 : (w.alloc (.cells #[.int .i64 h, .int .i64 l, .int .i64 t, .bool o] 58)).cell? ⟨g, 0, none⟩ = some (.int .i64 s) := (((Below.refl _ w).alloc (Nat.le_refl _) _).cell (p := ⟨g, 0, none⟩) hlt).trans hg
  have HB : Hid (Below w.heap.size w (w.alloc (.cells #[.int .i64 h, .int .i64 l, .int .i64 t, .bool o] 58))) := (Below.refl _ _).alloc (Nat.le_refl _) _
  by_cases hh : h < s
  · go_enter Try.func30, Try.ntmps30
    go_wp2
    go_ret
    exact ⟨retB (by simp [hh]), HB.out⟩
  · go_enter Try.func30, Try.ntmps30
    go_wp2
    go_ret
    exact ⟨retB (by simp [hh]), HB.out⟩
set_option maxRecDepth 100000 in
theorem more_any (h l t s : Int) (o : Bool) (g : Nat) (w : World) (hg : w.cell? ⟨g, 0, none⟩ = some (.int .i64 s)) (hlt : g < w.heap.size) :
    Calls Try.prog 31 #[.agg #[.int .i64 h, .int .i64 l, .int .i64 t, .bool o], .pointer (some ⟨g, 0, none⟩)] w fun e w' => e = .returned (.bool (decide (s < h))) ∧ Below w.heap.size w w' := by
  have hg2 : (w.alloc (.cells #[.int .i64 h, .int .i64 l, .int .i64 t, .bool o] 58)).cell? ⟨g, 0, none⟩ = some (.int .i64 s) := (((Below.refl _ w).alloc (Nat.le_refl _) _).cell (p := ⟨g, 0, none⟩) hlt).trans hg
  have HB : Hid (Below w.heap.size w (w.alloc (.cells #[.int .i64 h, .int .i64 l, .int .i64 t, .bool o] 58))) := (Below.refl _ _).alloc (Nat.le_refl _) _
  by_cases hh : s < h
  · go_enter Try.func31, Try.ntmps31
    go_wp2
    go_ret
    exact ⟨retB (by simp [hh]), HB.out⟩
  · go_enter Try.func31, Try.ntmps31
    go_wp2
    go_ret
    exact ⟨retB (by simp [hh]), HB.out⟩

/-- The variable at block G1 holds these places. -/
structure PV (w : World) (G1 g n cap : Nat) (s : Int) (S : AT) : Prop where
  var : w.cell? ⟨G1, 0, none⟩ = some (.slice (some ⟨g, 0, none⟩) n cap)
  lt1 : G1 < w.heap.size
  lt : g < w.heap.size
  len : S.length = n
  le : n ≤ cap
  cap : cap ≤ 9223372036854775807
  at_ : ∀ i, i < n → w.cell? ⟨g, i * 4, none⟩ = some (.int .i64 (hasP S i)) ∧ w.cell? ⟨g, i * 4 + 1, none⟩ = some (.int .i64 (lvP s S i)) ∧ w.cell? ⟨g, i * 4 + 2, none⟩ = some (.int .i64 (too S i)) ∧ w.cell? ⟨g, i * 4 + 3, none⟩ = some (.bool (decide (too S i = i)))
theorem PV.later {w w' : World} {G1 g n cap : Nat} {s : Int} {S : AT} (h : PV w G1 g n cap s S) (hb : Below w.heap.size w w') : PV w' G1 g n cap s S :=
  ⟨(hb.cell (p := ⟨G1, 0, none⟩) h.lt1).trans h.var, Nat.lt_of_lt_of_le h.lt1 hb.size, Nat.lt_of_lt_of_le h.lt hb.size, h.len, h.le, h.cap, fun i hi => by
    obtain ⟨a, b, c, d⟩ := h.at_ i hi
    exact ⟨(hb.cell (p := ⟨g, i * 4, none⟩) h.lt).trans a, (hb.cell (p := ⟨g, i * 4 + 1, none⟩) h.lt).trans b, (hb.cell (p := ⟨g, i * 4 + 2, none⟩) h.lt).trans c, (hb.cell (p := ⟨g, i * 4 + 3, none⟩) h.lt).trans d⟩⟩
theorem pv_of {w : World} {B G1 g n cap : Nat} {s : Int} {S : AT} (h : w.ownsRow B 58 4 (.slice (some ⟨g, 0, none⟩) n cap) n (pvs s 0 S)) (hl : S.length = n) (hc : w.cell? ⟨G1, 0, none⟩ = some (.slice (some ⟨g, 0, none⟩) n cap)) (hg : G1 < w.heap.size) : PV w G1 g n cap s S := by
  have h0 := h
  rcases h.2 with ⟨h1, _⟩ | ⟨g', cap', cur, e, hB, hgb, h1, h2, h3, h4⟩
  · cases h1
  · cases e
    refine ⟨hc, hg, lt_of_block hgb, hl, h1, by unfold maxLen at h2; omega, fun i hi => ?_⟩
    obtain ⟨a, b, c, d⟩ := pvs_at s S 0 i (by omega)
    rw [Nat.zero_add] at a b d
    rw [World.ownsRow.cellAt h0 (i * 4) (by omega), World.ownsRow.cellAt h0 (i * 4 + 1) (by omega), World.ownsRow.cellAt h0 (i * 4 + 2) (by omega), World.ownsRow.cellAt h0 (i * 4 + 3) (by omega)]
    exact ⟨a, b, c, d⟩

set_option maxRecDepth 100000 in
set_option maxHeartbeats 2000000 in
theorem find_any (fid : Nat) (caps : Array Value) (q : Int → Bool) (G1 g n cap : Nat) (s : Int) (S : AT) (w : World) (hP : PV w G1 g n cap s S)
    (hen : ∀ (args : Array Value) (w : World), (callFunc fid args).run Try.prog w = .ok (.enter fid args) w)
    (hf : ∀ (a : World) (h l t : Int) (o : Bool), Below w.heap.size w a → Calls Try.prog fid (#[.agg #[.int .i64 h, .int .i64 l, .int .i64 t, .bool o]] ++ caps) a fun e b => e = .returned (.bool (q h)) ∧ Below a.heap.size a b) :
    Calls Try.prog 29 #[.func (.func fid) #[] caps, .pointer (some ⟨G1, 0, none⟩)] w fun e w' => e = .returned (.int .i64 (first (fun i => decide (too S i = i) && q (lev S i)) S.length)) ∧ Below w.heap.size w w' := by
  have HF := Lib.hid hf
  have HP := Lib.hid hP
  have hv := hP.var
  have hle := hP.le
  have hcap := hP.cap
  have HLN := Lib.hid hP.len
  clear hf hP
  go_enter Try.func29, Try.ntmps29
  go_wp2_with fail
  clear hv
  go_loopw [8] (fun iv wr => ∃ k : Nat, k ≤ n ∧ iv = .int .i64 k ∧ Below w.heap.size w wr ∧ (∀ j, j < k → (decide (too S j = j) && q (lev S j)) = false)) (fun iv _ => n - (intOf iv).toNat)
  case atStart => exact ⟨0, by omega, rfl, Below.refl _ _, fun j hj => by omega⟩
  case round =>
    obtain ⟨k, hk, rfl, hB, hJ⟩ := hrel
    have HB := Lib.hid hB
    have HJ := Lib.hid hJ
    clear hB hJ
    by_cases hlt : k < n
    · obtain ⟨c0, c1, c2, c3⟩ := (HP.out.later HB.out).at_ k hlt
      have HBN : Hid (Below w.heap.size w (wr.alloc (.cells #[.int .i64 (hasP S k), .int .i64 (lvP s S k), .int .i64 (too S k), .bool (decide (too S k = k))] 58))) := HB.out.alloc HB.out.size _
      by_cases ht : too S k = k
      · have CF := Lib.hid (HF.out _ (hasP S k) (lvP s S k) (too S k) (decide (too S k = k)) HBN.out)
        have eh : hasP S k = lev S k := if_pos ht
        rw [decide_eq_true ht, eh] at CF HBN
        rw [eh] at c0
        rw [decide_eq_true ht] at c3
        have HT := Lib.hid ht
        clear ht eh
        by_cases hq : q (lev S k) = true
        · have E : Hid (first (fun i => decide (too S i = i) && q (lev S i)) S.length = k) := first_hit (by rw [decide_eq_true HT.out, hq]; rfl) (by rw [HLN.out]; exact hlt) HJ.out
          rw [hq] at CF
          clear hq
          generalize lev S k = x at *
          generalize lvP s S k = y at *
          generalize too S k = z at *
          go_wp2_with fail
          refine CF.out.mono ?_
          rintro e w1 ⟨rfl, hb1⟩
          have HB1 := Lib.hid (HBN.out.trans (hb1.mono HBN.out.size))
          clear hb1 CF
          go_wp2
          go_ret
          exact ⟨retI E.out.symm, HB1.out⟩
        · have hq : q (lev S k) = false := by simpa using hq
          have E : Hid (∀ j, j < k + 1 → (decide (too S j = j) && q (lev S j)) = false) := fun j hj => by
            by_cases e : j = k
            · subst e; rw [hq, Bool.and_false]
            · exact HJ.out j (by omega)
          rw [hq] at CF
          clear hq
          generalize lev S k = x at *
          generalize lvP s S k = y at *
          generalize too S k = z at *
          go_wp2_with fail
          refine CF.out.mono ?_
          rintro e w1 ⟨rfl, hb1⟩
          have HB1 := Lib.hid (HBN.out.trans (hb1.mono HBN.out.size))
          clear hb1 CF
          go_wp2
          go_roundw
          case rel => exact ⟨k + 1, by omega, by go_num, HB1.out, E.out⟩
          case measure => simp [intOf]; omega
      · have E : Hid (∀ j, j < k + 1 → (decide (too S j = j) && q (lev S j)) = false) := fun j hj => by
          by_cases e : j = k
          · subst e; rw [decide_eq_false ht]; rfl
          · exact HJ.out j (by omega)
        rw [decide_eq_false ht] at HBN c3
        clear ht
        generalize hasP S k = x at *
        generalize lvP s S k = y at *
        generalize too S k = z at *
        go_wp2
        go_roundw
        case rel => exact ⟨k + 1, by omega, by go_num, HBN.out, E.out⟩
        case measure => simp [intOf]; omega
    · obtain rfl : k = n := by omega
      have E : Hid (first (fun i => decide (too S i = i) && q (lev S i)) S.length = -1) := first_miss (by rw [HLN.out]; exact HJ.out)
      go_wp2
      go_ret
      exact ⟨retI E.out.symm, HB.out⟩
end Go.Proofs.Ytjhcbjpbmbjgoaa
