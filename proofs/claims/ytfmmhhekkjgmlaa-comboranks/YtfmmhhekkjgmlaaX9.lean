/- lotdrawerref.ERank. -/
import Derived.Test.YtfmmhhekkjgmlaaX7
import Derived.Test.YtfmmhhekkjgmlaaX2
import Derived.Deep.RegionHeld3
import Derived.IntWalk
namespace Go.Proofs.Ytfmmhhekkjgmlaa
open Go.RowKit Go.Deep

def ERankC (q : List Nat) : Prop := ∀ (A : Option Addr) (ca : Nat) (w : World), IP w A ca (ints q) → Calls Try.prog 20 #[.slice A q.length ca] w fun e w' => e = .returned (.int .i64 (rk q : Nat)) ∧ Below w.heap.size w w'
theorem erank_nil : ERankC [] := by
  intro A ca w hp
  clear hp
  go_enter Try.func20, Try.ntmps20
  go_wp2
  go_ret
  exact ⟨rfl, Below.refl _ _⟩
theorem ip_take {w : World} {A : Option Addr} {ca : Nat} {l : List Int} (h : IP w A ca l) (n : Nat) : IP w A ca (l.take n) := ⟨h.il.take n, by rw [List.length_take]; have := h.le; omega, h.cap, h.none⟩
set_option maxRecDepth 100000 in
set_option maxHeartbeats 1000000 in
theorem erank_step {N : Nat} (d : List Nat) (x : Nat) (hN : N ≤ 60) (hI : Inc N (d ++ [x])) (ih : ERankC d) : ERankC (d ++ [x]) := by
  intro A ca w hp
  have hle := hp.le
  have hcap := hp.cap
  have hlen := hI.len_le
  have hx := (inc_snoc.1 hI).2
  have hrk := inc_rk hI hN
  rw [rk_snoc] at hrk ⊢
  have hpd : IP w A ca (ints d) := by
    have := ip_take hp d.length
    rwa [show (ints (d ++ [x])).take d.length = ints d by simp [ints]] at this
  obtain ⟨b, off, rfl, hbw, hc⟩ := hp.il.at (by simp [ints])
  have hcx := hc d.length (by simp [ints])
  rw [ints_at] at hcx
  rw [show (d ++ [x]).getD d.length 0 = x by simp] at hcx
  rw [ints_len] at hle
  rw [show (d ++ [x]).length = d.length + 1 by simp] at *
  have C1 := Lib.hid (fun w2 => eOf_any x (d.length + 1) w2 (by omega) (by omega))
  have C2 : Hid (∀ w2, Below w.heap.size w w2 → Calls Try.prog 20 #[.slice (some ⟨b, off, none⟩) d.length ca] w2 fun e w' => e = .returned (.int .i64 (rk d : Nat)) ∧ Below w2.heap.size w2 w') := fun w2 hb => ih _ _ w2 (hpd.later hb)
  obtain ⟨n, hn⟩ : ∃ n, d.length + 1 = n := ⟨_, rfl⟩
  rw [hn] at hle hlen C1 hrk ⊢
  have hz : ((n : Int) == 0) = false := eqz_no (by omega)
  have h3 : (n : Int) - 1 = (d.length : Int) := by omega
  have h4 : d.length < n := by omega
  generalize rk d = r at *
  generalize bc x n = z at *
  generalize d.length = m at *
  clear ih hp hc hI hpd hn
  have HCX := Lib.hid hcx
  have HBW := Lib.hid hbw
  clear hcx hbw
  have hcx := HCX.out
  have i1 : (0 : Int) ≤ (m : Int) := by omega
  have i2 : (m : Int) < (n : Int) := by omega
  have i3 : (m : Int) ≤ (ca : Int) := by omega
  have i4 : IntKind.i64.wrap ((n : Int) - 1) = (m : Int) := by rw [h3]; exact IntWalk.i64_in _ (by omega)
  have i5 : IntKind.i64.wrap (m : Int) = (m : Int) := IntWalk.i64_in _ (by omega)
  have i6 : IntKind.i64.wrap ((z : Int) + (r : Int)) = (z : Int) + (r : Int) := IntWalk.i64_in _ (by omega)
  have HD : Hid (∀ w2, Below w.drew.heap.size w.drew w2 → Below w.heap.size w w2) := fun w2 hb => (Below.refl w.heap.size w).drew.trans hb
  go_enter Try.func20, Try.ntmps20
  go_wp2_with fail
  go_region_held3 (fun w' => w'.cell? ⟨b, off + m, none⟩ = some (.int .i64 (x : Int))) (go_keep)
    (first
      | (go_at_call 11; refine (C1.out _).mono ?_; rintro e w2 ⟨rfl, hb2⟩; have f0 := (hb2.cell (p := ⟨b, off + m, none⟩) HBW.out).trans HCX.out; have HB2 := Lib.hid hb2; clear hb2)
      | (go_at_call 20; refine (C2.out _ (HD.out _ HB2.out)).mono ?_; rintro e w3 ⟨rfl, hb3⟩; have HB3 := Lib.hid (HB2.out.trans (hb3.mono HB2.out.size)); have g0 := (HB3.out.cell (p := ⟨b, off + m, none⟩) HBW.out).trans HCX.out; clear hb3))
  go_wp2
  go_ret
  exact ⟨retI (by omega), HD.out _ HB3.out⟩
theorem erank_all {N : Nat} (hN : N ≤ 60) : ∀ (m : Nat) (q : List Nat), q.length = m → Inc N q → ERankC q := by
  intro m
  induction m with
  | zero => intro q hl _; rw [List.eq_nil_of_length_eq_zero hl]; exact erank_nil
  | succ m ih =>
    intro q hl h
    rcases List.eq_nil_or_concat q with rfl | ⟨d, x, rfl⟩
    · simp at hl
    · rw [List.concat_eq_append] at h hl ⊢
      exact erank_step d x hN h (ih d (by simp at hl; omega) ((inc_snoc.1 h).1.mono (by have := (inc_snoc.1 h).2; omega)))
theorem erank_any {N : Nat} (hN : N ≤ 60) (q : List Nat) (h : Inc N q) (A : Option Addr) (ca : Nat) (w : World) (hp : IP w A ca (ints q)) : Calls Try.prog 20 #[.slice A q.length ca] w fun e w' => e = .returned (.int .i64 (rk q : Nat)) ∧ Below w.heap.size w w' := erank_all hN _ q rfl h A ca w hp
end Go.Proofs.Ytfmmhhekkjgmlaa
