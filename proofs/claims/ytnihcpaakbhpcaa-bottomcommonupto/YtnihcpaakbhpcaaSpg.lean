/- slices.Sort and slices.Sorted of words. -/
import Derived.Test.YtnihcpaakbhpcaaSpf
import Derived.Test.YtnihcpaakbhpcaaU2
namespace Go.Proofs.Ytnihcpaakbhpcaa
open Go.RowKit Go.Deep

set_option maxRecDepth 100000 in
set_option maxHeartbeats 2000000 in
theorem insertion_nil (R : Option Addr) (cr : Nat) (w : World) : Calls Try.prog 68 #[.slice R 0 cr, .int .i64 0, .int .i64 0] w fun e w' => e = .returned (.tuple #[]) ∧ w' = w := by
  go_enter Try.func68, Try.ntmps68
  go_wp2_with fail
  go_loopw [6] (fun iv wr => iv = .int .i64 1 ∧ wr = w) (fun _ _ => 0)
  case atStart => exact ⟨by go_num, rfl⟩
  case round =>
    obtain ⟨rfl, rfl⟩ := hrel
    go_wp2
    go_end0
    exact ⟨rfl, rfl⟩
set_option maxRecDepth 100000 in
set_option maxHeartbeats 2000000 in
theorem pdq_nil (R : Option Addr) (cr : Nat) (lm : Int) (w : World) : Calls Try.prog 58 #[.slice R 0 cr, .int .i64 0, .int .i64 0, .int .i64 lm] w fun e w' => e = .returned (.tuple #[]) ∧ w' = w := by
  have K := Lib.hid (insertion_nil R cr w)
  go_enter Try.func58, Try.ntmps58
  go_wp2_with fail
  go_loopw [1, 2, 3, 8, 9] (fun av bv _ _ _ wr => av = .int .i64 0 ∧ bv = .int .i64 0 ∧ wr = w) (fun _ _ _ _ _ _ => 0)
  case atStart => exact ⟨rfl, rfl, rfl⟩
  case round =>
    obtain ⟨rfl, rfl, rfl⟩ := hrel
    go_wp2_with fail
    refine K.out.mono ?_
    rintro e w1 ⟨rfl, rfl⟩
    go_wp2
    first | go_end0 | (refine bodyPost_ret (results_none rfl _ _ _) rfl ?_)
    exact ⟨rfl, rfl⟩
theorem bl_64 (n : Nat) (h : n ≤ 17592186044416) : Lib.bitLen n ≤ 64 := by
  by_cases h0 : n = 0
  · subst h0; decide
  · have := (bl_le n h h0).1; omega
set_option maxRecDepth 100000 in
set_option maxHeartbeats 2000000 in
/-- slices.Sort of a slice of the call's own. -/
theorem sortU_any (B n : Nat) (R : Option Addr) (cr : Nat) (ds : List W64) (w : World) (hn : ds.length = n) (hO : OU w B (.slice R n cr) ds) (hs : n ≤ 17592186044416) :
    Calls Try.prog 45 #[.slice R n cr] w fun e w' => ∃ l', e = .returned (.tuple #[]) ∧ Sw 0 n ds l' ∧ Srt l' 0 n ∧ OU w' B (.slice R n cr) l' ∧ Below B w w' := by
  have KL := Lib.hid (len_any n hs w)
  have e1 : IntKind.u64.wrap (n : Int) = (n : Int) := by rw [IntKind.wrap_u64]; omega
  by_cases h0 : n = 0
  · subst h0
    have K := Lib.hid (fun lm => pdq_nil R cr lm w)
    have HO := Lib.hid hO
    clear hO
    go_enter Try.func45, Try.ntmps45
    go_wp2_with fail
    refine KL.out.mono ?_
    rintro e w1 ⟨rfl, rfl⟩
    go_wp2_with fail
    refine (K.out _).mono ?_
    rintro e w1 ⟨rfl, rfl⟩
    go_wp2
    go_end0
    exact ⟨ds, rfl, .refl _, fun p q _ _ h => by omega, HO.out, Below.refl _ _⟩
  · obtain ⟨g, cap, e, hgB, hgl, _, _, _, _, ho⟩ := hO.form hn (by omega)
    cases e
    have HK := pdq_all B g cr n hgB hs (n + 1) 0 n (Lib.bitLen n) ds w ho hn hgl (Nat.zero_le _) (Nat.le_refl _) (bl_64 n hs) (.inl rfl) (by omega)
    rw [show ((0 : Nat) : Int) = 0 from rfl] at HK
    have K := Lib.hid HK
    clear HK ho hO
    generalize Lib.bitLen n = k at *
    go_enter Try.func45, Try.ntmps45
    go_wp2_with fail
    refine KL.out.mono ?_
    rintro e w1 ⟨rfl, rfl⟩
    go_wp2_with fail
    refine K.out.mono ?_
    rintro e w2 ⟨l', rfl, hS, hT, hO2, hb2⟩
    have H := Lib.hid (show Sw 0 n ds l' ∧ Srt l' 0 n ∧ OU w2 B (.slice (some ⟨g, 0, none⟩) n cr) l' ∧ Below B w1 w2 from ⟨hS, hT, hO2, hb2⟩)
    clear hS hT hO2 hb2
    go_wp2
    go_end0
    exact ⟨l', rfl, H.out⟩

set_option maxHeartbeats 1000000 in
/-- slices.Sorted(slices.Values(ds)). -/
theorem sortedU_any (g : Nat) (A : Option Addr) (ca : Nat) (ds : List W64) (hs : ds.length ≤ 17592186044416) (w : World) (hB : Boxed w g 25 (.slice A ds.length ca)) (hI : Ul w A ds) :
    Calls Try.prog 27 #[.func (.func 46) #[] #[.pointer (some ⟨g, 0, none⟩)]] w fun e w' => ∃ v l', e = .returned v ∧ Sw 0 ds.length ds l' ∧ Srt l' 0 ds.length ∧ OU w' w.heap.size v l' ∧ Below w.heap.size w w' := by
  have HC := Lib.hid (ucollect_any g A ca ds hs w hB hI)
  clear hB hI
  go_enter Try.func27, Try.ntmps27
  go_wp2_with fail
  refine HC.out.mono ?_
  rintro e w1 ⟨v, rfl, hO, hb⟩
  obtain ⟨R, cr, rfl, _⟩ := hO.up
  have HS := Lib.hid (sortU_any w.heap.size ds.length R cr ds w1 rfl hO hs)
  have HB := Lib.hid hb
  clear HC hO hb
  go_wp2_with fail
  refine HS.out.mono ?_
  rintro e w2 ⟨l', rfl, hS, hT, hO, hb⟩
  have H := Lib.hid (show Sw 0 ds.length ds l' ∧ Srt l' 0 ds.length ∧ OU w2 w.heap.size (.slice R ds.length cr) l' ∧ Below w.heap.size w w2 from ⟨hS, hT, hO, HB.out.trans hb⟩)
  clear hS hT hO hb HB
  go_wp2
  go_ret
  exact ⟨_, l', rfl, H.out⟩
end Go.Proofs.Ytnihcpaakbhpcaa
