import Derived.Test.YtnihcpaakbhpcaaMxc
import Derived.Test.YtnihcpaakbhpcaaG5
import Derived.Deep.RegionHeld3
/- lotdrawerref.LRight. -/
namespace Go.Proofs.Ytnihcpaakbhpcaa
open Go.RowKit Go.Deep

/-- So far it is a sketch. -/
def RtK (s : W64) (r : Int) (l : List W64) (k : Nat) : Prop := ((1 ≤ r ∧ r ≤ 400) ∧ (l.length : Int) ≤ r) ∧ ∀ j, j < k → 0 < j → rk s (l.getD (j - 1) 0) < rk s (l.getD j 0)
instance (s : W64) (r : Int) (l : List W64) (k : Nat) : Decidable (RtK s r l k) := by unfold RtK; infer_instance
theorem rtK_zero {s : W64} {r : Int} {l : List W64} : RtK s r l 0 ↔ ((1 ≤ r ∧ r ≤ 400) ∧ (l.length : Int) ≤ r) := ⟨fun h => h.1, fun h => ⟨h, fun j hj => by omega⟩⟩
theorem rtK_succ {s : W64} {r : Int} {l : List W64} {k : Nat} : RtK s r l (k + 1) ↔ RtK s r l k ∧ (0 < k → rk s (l.getD (k - 1) 0) < rk s (l.getD k 0)) := by
  constructor
  · rintro ⟨h1, h2⟩
    exact ⟨⟨h1, fun j hj h0 => h2 j (by omega) h0⟩, fun h0 => h2 k (by omega) h0⟩
  · rintro ⟨⟨h1, h2⟩, h3⟩
    refine ⟨h1, fun j hj h0 => ?_⟩
    rcases Nat.lt_or_ge j k with h | h
    · exact h2 j h h0
    · obtain rfl : j = k := by omega
      exact h3 h0
theorem rtK_all {s : W64} {r : Int} {l : List W64} : RtK s r l l.length ↔ RtP s r l := by
  constructor
  · rintro ⟨h1, h2⟩
    exact ⟨h1, ra_step fun i hi => by have := h2 (i + 1) hi (by omega); simpa using this⟩
  · rintro ⟨h1, h2⟩
    exact ⟨h1, fun j hj h0 => ra_at h2 (by omega) hj⟩

set_option maxRecDepth 100000 in
set_option maxHeartbeats 4000000 in
theorem lright_any (s : W64) (r : Int) (A : Option Addr) (ca : Nat) (l : List W64) (w : World) (hl : UP w A ca l) :
    Calls Try.prog 18 #[.int .u64 (s.toNat : Int), .int .i64 r, .slice A l.length ca] w fun e w' => e = .returned (.bool (decide (RtP s r l))) ∧ Below w.heap.size w w' := by
  have hle := hl.le
  have hcap := hl.cap
  have HL := Lib.hid hl
  clear hl
  obtain ⟨bb, hbb⟩ : ∃ bb, decide (RtP s r l) = bb := ⟨_, rfl⟩
  have HBB : Hid (decide (RtK s r l l.length) = bb) := by show _ = _; rw [← hbb, decide_eq_decide]; exact rtK_all
  rw [hbb]
  clear hbb
  rcases (show r < 1 ∨ (1 ≤ r ∧ 400 < r) ∨ (1 ≤ r ∧ r ≤ 400 ∧ r < (l.length : Int)) ∨ (1 ≤ r ∧ r ≤ 400 ∧ (l.length : Int) ≤ r) by omega) with h | ⟨h1, h2⟩ | ⟨h1, h2, h3⟩ | ⟨h1, h2, h3⟩
  case' inl =>
    have d1 : decide (0 < r) = false := decide_eq_false (by omega)
    have H0 : Hid (decide (RtK s r l 0) = false) := decide_eq_false (fun h => by have := (rtK_zero.1 h).1; omega)
  case' inr.inl =>
    have d1 : decide (0 < r) = true := decide_eq_true (by omega)
    have d2 : decide (r < 401) = false := decide_eq_false (by omega)
    have H0 : Hid (decide (RtK s r l 0) = false) := decide_eq_false (fun h => by have := (rtK_zero.1 h).1; omega)
  case' inr.inr.inl =>
    have d1 : decide (0 < r) = true := decide_eq_true (by omega)
    have d2 : decide (r < 401) = true := decide_eq_true (by omega)
    have d3 : decide ((l.length : Int) ≤ r) = false := decide_eq_false (by omega)
    have H0 : Hid (decide (RtK s r l 0) = false) := decide_eq_false (fun h => by have := (rtK_zero.1 h).2; omega)
  case' inr.inr.inr =>
    have d1 : decide (0 < r) = true := decide_eq_true (by omega)
    have d2 : decide (r < 401) = true := decide_eq_true (by omega)
    have d3 : decide ((l.length : Int) ≤ r) = true := decide_eq_true h3
    have H0 : Hid (decide (RtK s r l 0) = true) := decide_eq_true (rtK_zero.2 ⟨⟨h1, h2⟩, h3⟩)
  all_goals
    go_enter Try.func18, Try.ntmps18
    go_wp2_with fail
    go_loopw [7, 23] (fun ov kv wr => ∃ k : Nat, k ≤ l.length ∧ kv = .int .i64 k ∧ ov = .bool (decide (RtK s r l k)) ∧ Below w.heap.size w wr) (fun _ kv _ => l.length - (intOf kv).toNat)
    case atStart => exact ⟨0, by omega, rfl, by rw [H0.out], Below.refl _ _⟩
    case round =>
      clear H0
      obtain ⟨k, hk, rfl, rfl, hb⟩ := hrel
      have HB := Lib.hid hb
      clear hb
      by_cases hlt : k < l.length
      · have hS := @rtK_succ s r l k
        by_cases hK : RtK s r l k
        · rw [decide_eq_true hK]
          by_cases hk0 : k = 0
          · subst hk0
            have HN : Hid (decide (RtK s r l (0 + 1)) = true) := decide_eq_true (hS.2 ⟨hK, fun h => by omega⟩)
            clear hS hK
            go_wp2_with fail
            go_quiet (fail)
            go_wp2
            go_roundw
            case rel => exact ⟨0 + 1, by omega, by go_num, by rw [HN.out], below_drewN HB.out _⟩
            case measure => simp [intOf]; omega
          · obtain ⟨m, hm⟩ : ∃ m, k = m + 1 := ⟨k - 1, by omega⟩
            obtain ⟨b, off, rfl, hbl, hcell⟩ := (HL.out.later HB.out).ul.at (by omega)
            have ck := hcell k hlt
            have cm := hcell m (by omega)
            have hsuc : rk s (l.getD m 0) < rk s (l.getD k 0) ↔ RtK s r l (k + 1) := by
              rw [hS]
              have e : k - 1 = m := by omega
              rw [e]
              exact ⟨fun h => ⟨hK, fun _ => h⟩, fun h => h.2 (by omega)⟩
            clear hcell
            obtain ⟨x, hx⟩ : ∃ x, l.getD k 0 = x := ⟨_, rfl⟩
            obtain ⟨y, hy⟩ : ∃ y, l.getD m 0 = y := ⟨_, rfl⟩
            rw [hx] at ck
            rw [hy] at cm
            rw [hx, hy] at hsuc
            have e1 := xor_w x s
            have e2 := xor_w y s
            have hw : IntKind.i64.wrap ((k : Int) - 1) = (m : Int) := by rw [hm, IntWalk.i64_in _ (by omega)]; push_cast; omega
            have m1 : (0 : Int) ≤ (m : Int) := by omega
            have m2 : (m : Int) < (l.length : Int) := by omega
            have m3 : (k : Int) < (l.length : Int) := by omega
            have m4 : (0 : Int) ≤ (k : Int) := by omega
            have kz : ((k : Int) == 0) = false := eqz_no hk0
            have HC1 : Hid (∀ w, Calls Try.prog 11 _ w _) := fun w => lmix_any (x ^^^ s) w
            have HC2 : Hid (∀ w, Calls Try.prog 11 _ w _) := fun w => lmix_any (y ^^^ s) w
            have hrx : rk s x = (mix (x ^^^ s)).toNat := rfl
            have hry : rk s y = (mix (y ^^^ s)).toNat := rfl
            rw [hrx, hry] at hsuc
            generalize mix (x ^^^ s) = mx at *
            generalize mix (y ^^^ s) = my at *
            generalize x ^^^ s = xs at *
            generalize y ^^^ s = ys at *
            have HD : Hid (Below w.heap.size w wr.drew) := HB.out.drew
            have HS1 : Hid (w.heap.size ≤ wr.drew.heap.size) := HD.out.size
            have HX : Hid (∀ w2, Below wr.drew.heap.size wr.drew w2 → w2.cell? ⟨b, off + k, none⟩ = some (.int .u64 (x.toNat : Int)) ∧ w2.cell? ⟨b, off + m, none⟩ = some (.int .u64 (y.toNat : Int))) := fun w2 h => ⟨(h.cell (p := ⟨b, off + k, none⟩) hbl).trans ck, (h.cell (p := ⟨b, off + m, none⟩) hbl).trans cm⟩
            have HSUC := Lib.hid hsuc
            clear hsuc hS hK hx hy hrx hry hbl hm
            by_cases hlt2 : my.toNat < mx.toNat
            · have t1 : decide ((my.toNat : Int) < (mx.toNat : Int)) = true := decide_eq_true (by omega)
              have HN : Hid (decide (RtK s r l (k + 1)) = true) := decide_eq_true (HSUC.out.1 hlt2)
              go_wp2_with fail
              go_region_held3 (fun w' => w'.cell? ⟨b, off + k, none⟩ = some (.int .u64 (x.toNat : Int)) ∧ w'.cell? ⟨b, off + m, none⟩ = some (.int .u64 (y.toNat : Int))) (go_keep)
                (first
                  | (have hh7 := HB7; clear hh7; go_at_call 11; refine (HC2.out _).mono ?_; rintro e w8 ⟨rfl, hb8⟩; have HB8 := Lib.hid (HB7.out.trans (hb8.mono HB7.out.size)); have g := HX.out _ HB8.out; have g0 := g.1; have g1 := g.2; clear g hb8)
                  | (go_at_call 11; refine (HC1.out _).mono ?_; rintro e w7 ⟨rfl, hb7⟩; have HB7 := Lib.hid hb7; have f := HX.out _ hb7; have f0 := f.1; have f1 := f.2; clear f hb7))
              have HB9 := Lib.hid (HD.out.trans (HB8.out.mono HS1.out))
              go_wp2
              go_roundw
              case rel => exact ⟨k + 1, by omega, by go_num, by rw [HN.out], HB9.out⟩
              case measure => simp [intOf]; omega
            · have t1 : decide ((my.toNat : Int) < (mx.toNat : Int)) = false := decide_eq_false (by omega)
              have HN : Hid (decide (RtK s r l (k + 1)) = false) := decide_eq_false (fun h => hlt2 (HSUC.out.2 h))
              go_wp2_with fail
              go_region_held3 (fun w' => w'.cell? ⟨b, off + k, none⟩ = some (.int .u64 (x.toNat : Int)) ∧ w'.cell? ⟨b, off + m, none⟩ = some (.int .u64 (y.toNat : Int))) (go_keep)
                (first
                  | (have hh7 := HB7; clear hh7; go_at_call 11; refine (HC2.out _).mono ?_; rintro e w8 ⟨rfl, hb8⟩; have HB8 := Lib.hid (HB7.out.trans (hb8.mono HB7.out.size)); have g := HX.out _ HB8.out; have g0 := g.1; have g1 := g.2; clear g hb8)
                  | (go_at_call 11; refine (HC1.out _).mono ?_; rintro e w7 ⟨rfl, hb7⟩; have HB7 := Lib.hid hb7; have f := HX.out _ hb7; have f0 := f.1; have f1 := f.2; clear f hb7))
              have HB9 := Lib.hid (HD.out.trans (HB8.out.mono HS1.out))
              go_wp2
              go_roundw
              case rel => exact ⟨k + 1, by omega, by go_num, by rw [HN.out], HB9.out⟩
              case measure => simp [intOf]; omega
        · rw [decide_eq_false hK]
          have HN : Hid (decide (RtK s r l (k + 1)) = false) := decide_eq_false (fun h => hK (hS.1 h).1)
          clear hS hK
          go_wp2_with fail
          go_quiet (fail)
          go_wp2
          go_roundw
          case rel => exact ⟨k + 1, by omega, by go_num, by rw [HN.out], below_drewN HB.out _⟩
          case measure => simp [intOf]; omega
      · obtain rfl : k = l.length := by omega
        rw [HBB.out]
        go_wp2
        go_ret
        exact ⟨rfl, HB.out⟩
end Go.Proofs.Ytnihcpaakbhpcaa
