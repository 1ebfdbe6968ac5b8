/- StatsShift: its closure, and the mathematics of numbers that come round. -/
import Derived.Test.YtclfimpcacoefaaMw1
import Derived.Test.YtclfimpcacoefaaMw4
namespace Go.Proofs.Ytclfimpcacoefaa
open Go.RowKit Go.Deep

/-- What the closure answers. -/
def shT (l : List Int) : Value := if okl l then .tuple #[.int .i64 (spr l), .bool true] else .tuple #[.int .i64 0, .bool false]
theorem shT_ok {l : List Int} (h : okl l) : shT l = .tuple #[.int .i64 (spr l), .bool true] := if_pos h
theorem shT_no {l : List Int} (h : ¬ okl l) : shT l = .tuple #[.int .i64 0, .bool false] := if_neg h
theorem sprT_zero : sprT 0 0 0 = .tuple #[.int .i64 0, .int .i64 0] := by
  have h : RtM 0 0 0 := by decide
  rw [sprT_ok h]; rfl

set_option maxRecDepth 100000 in
set_option maxHeartbeats 2000000 in
theorem shift1_any (A : Option Addr) (ca : Nat) (l : List Int) (w : World) (hl : IP w A ca l) :
    Calls Try.prog 25 #[.slice A l.length ca] w fun e w' => e = .returned (shT l) ∧ Below w.heap.size w w' := by
  have CO := Lib.hid (of_any A ca l w hl)
  have hle := hl.le
  have hcap := hl.cap
  clear hl
  by_cases h : okl l
  · rw [ofT_ok h] at CO
    rw [shT_ok h]
    have CS := Lib.hid (fun wx => spread_any (l.length : Int) (ssum l) (ssq l) wx)
    rw [okl_spr h] at CS
    clear h
    go_enter Try.func25, Try.ntmps25
    go_wp2_with fail
    refine CO.out.mono ?_
    rintro e w2 ⟨rfl, hb2⟩
    have HB3 : Hid (Below w.heap.size w (w2.alloc (.cells #[.int .i64 (l.length : Int), .int .i64 (ssum l), .int .i64 (ssq l)] 24))) := hb2.alloc hb2.size _
    clear CO hb2
    go_wp2_with fail
    refine (CS.out _).mono ?_
    rintro e w4 ⟨rfl, hb⟩
    have HB4 := Lib.hid (HB3.out.trans (hb.mono HB3.out.size))
    clear hb CS HB3
    go_wp2
    go_ret2
    exact ⟨rfl, HB4.out⟩
  · rw [ofT_no h] at CO
    rw [shT_no h]
    have CS := Lib.hid (fun wx => spread_any 0 0 0 wx)
    rw [sprT_zero] at CS
    clear h
    go_enter Try.func25, Try.ntmps25
    go_wp2_with fail
    refine CO.out.mono ?_
    rintro e w2 ⟨rfl, hb2⟩
    have HB3 : Hid (Below w.heap.size w (w2.alloc (.cells #[.int .i64 0, .int .i64 0, .int .i64 0] 24))) := hb2.alloc hb2.size _
    clear CO hb2
    go_wp2_with fail
    refine (CS.out _).mono ?_
    rintro e w4 ⟨rfl, hb⟩
    have HB4 := Lib.hid (HB3.out.trans (hb.mono HB3.out.size))
    clear hb CS HB3
    go_wp2
    go_ret2
    exact ⟨rfl, HB4.out⟩

/-- A number that the statement asks about: a small one, or the least of all. -/
def smallB (b : Int) : Prop := (-30 ≤ b ∧ b ≤ 30) ∨ b = -9223372036854775808
theorem small_of {b t : Int} (h1 : -9223372036854775808 ≤ b ∧ b ≤ 9223372036854775807) (h2 : -9223372036854775808 ≤ t ∧ t ≤ 9223372036854775807) (h : ¬ 30 < max4 b (IntKind.i64.wrap (-b)) t (IntKind.i64.wrap (-t))) : smallB b ∧ smallB t := by
  rw [IntKind.wrap_i64, IntKind.wrap_i64] at h
  unfold max4 at h
  unfold smallB
  omega
theorem okl_spr_bd {l : List Int} (h : okl l) : 0 ≤ spr l ∧ spr l ≤ 175921860444160000 := by
  have h1 := spr_nonneg l
  have h2 := (ssq_bd h.2).2
  have h3 := h.1
  have h4 : (l.length : Int) * ssq l ≤ 400 * 439804651110400 := by
    have h5 := (okl_bd h).2
    have := abs_mul_bd (a := (l.length : Int)) (b := ssq l) (A := 400) (B := 439804651110400) (by omega) (by omega) (by omega) (by omega)
    omega
  have h6 := sqn (ssum l)
  unfold spr at h1 ⊢
  omega
theorem shift_ok {l : List Int} {b : Int} (hb : smallB b) (h : okl l) (hM : okl (l.map fun x => IntKind.i64.wrap (x + b))) : spr (l.map fun x => IntKind.i64.wrap (x + b)) = spr l := by
  rcases hb with hb | rfl
  · have e : (l.map fun x => IntKind.i64.wrap (x + b)) = l.map (· + b) := by
      refine List.map_congr_left fun x hx => ?_
      have := h.2 x hx
      rw [IntKind.wrap_i64]; omega
    rw [e, spr_shift]
  · cases l with
    | nil => rfl
    | cons x l =>
      have h1 := h.2 x (List.mem_cons_self ..)
      have h2 := hM.2 (IntKind.i64.wrap (x + -9223372036854775808)) (by simp)
      rw [IntKind.wrap_i64] at h2
      omega
theorem times_ok {l : List Int} {t : Int} (ht : smallB t) (h : okl l) (hN : okl (l.map fun x => IntKind.i64.wrap (x * t))) : IntKind.i64.wrap (IntKind.i64.wrap (spr l * t) * t) = spr (l.map fun x => IntKind.i64.wrap (x * t)) := by
  have hs := okl_spr_bd h
  rcases ht with ht | rfl
  · have e : (l.map fun x => IntKind.i64.wrap (x * t)) = l.map (· * t) := by
      refine List.map_congr_left fun x hx => ?_
      have h1 := h.2 x hx
      have h2 := abs_mul_bd (a := x) (b := t) (A := 1048576) (B := 30) (by omega) (by omega) (by omega) (by omega)
      rw [IntKind.wrap_i64]; omega
    rw [e] at hN ⊢
    have h1 := okl_spr_bd hN
    rw [spr_times] at h1 ⊢
    have h2 := abs_mul_bd (a := spr l) (b := t) (A := 175921860444160000) (B := 30) (by omega) (by omega) (by omega) (by omega)
    have e1 : IntKind.i64.wrap (spr l * t) = spr l * t := IntWalk.i64_in _ (by omega)
    rw [e1]
    exact IntWalk.i64_in _ (by omega)
  · have hz : ∀ y ∈ (l.map fun x => IntKind.i64.wrap (x * -9223372036854775808)), y = 0 := fun y hy => by
      have h2 := hN.2 y hy
      obtain ⟨x, _, rfl⟩ := List.mem_map.1 hy
      rw [IntKind.wrap_i64] at h2 ⊢
      omega
    have hz0 : spr (l.map fun x => IntKind.i64.wrap (x * -9223372036854775808)) = 0 := spr_zero.2 (fun x hx y hy => by rw [hz x hx, hz y hy])
    rw [hz0]
    clear hz0 hz hN
    generalize spr l = s at *
    rw [IntKind.wrap_i64, IntKind.wrap_i64]
    omega
end Go.Proofs.Ytclfimpcacoefaa
