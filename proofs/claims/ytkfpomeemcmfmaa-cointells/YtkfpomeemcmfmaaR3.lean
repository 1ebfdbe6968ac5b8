/- lotdrawerref.CTurn. -/
import Derived.Test.YtkfpomeemcmfmaaR2
import Derived.Test.YtkfpomeemcmfmaaC2
namespace Go.Proofs.Ytkfpomeemcmfmaa
open Go.RowKit

set_option maxHeartbeats 1000000 in
theorem cturn_bad (A : Option Addr) (ca : Nat) (t : List Bool) (n d : Int) (w : World) (h : rgt n d = false ∨ n = 0) :
    Calls Try.prog 12 #[.slice A t.length ca, frac n d] w fun e w' => e = .returned (tup (turn t n d)) ∧ Below w.heap.size w w' := by
  rw [turn_bad h]
  have hB : Hid (Below w.heap.size w (w.alloc (.cells #[.int .i64 n, .int .i64 d] 24))) := (Below.refl _ _).alloc (Nat.le_refl _) _
  have C := Lib.hid (cright_any n d (w.alloc (.cells #[.int .i64 n, .int .i64 d] 24)))
  obtain ⟨c0, c1⟩ := frac_cells w n d
  unfold frac at *
  by_cases h1 : rgt n d = false
  · rw [h1] at C
    clear h h1 c0 c1
    go_enter Try.func12, Try.ntmps12
    go_wp2_with fail
    refine C.out.mono ?_
    rintro e w1 ⟨rfl, hB1⟩
    have HB : Hid (Below w.heap.size w w1) := hB.out.trans (hB1.mono hB.out.size)
    clear hB1 C hB
    go_wp2
    go_ret3
    exact ⟨rfl, HB.out⟩
  · have h2 : n = 0 := by rcases h with h | h; exact absurd h h1; exact h
    have h3 : rgt n d = true := by simpa using h1
    rw [h3] at C
    clear h h1 h3
    subst h2
    go_enter Try.func12, Try.ntmps12
    go_wp2_with fail
    refine C.out.mono ?_
    rintro e w1 ⟨rfl, hB1⟩
    have e0 := (hB1.cell (p := ⟨w.heap.size, 0, none⟩) (by simp)).trans c0
    have HB : Hid (Below w.heap.size w w1) := hB.out.trans (hB1.mono hB.out.size)
    clear hB1 C hB c0 c1
    go_wp2
    go_ret3
    exact ⟨rfl, HB.out⟩

set_option maxHeartbeats 2000000 in
theorem cturn_core (A : Option Addr) (ca : Nat) (t : List Bool) (n d : Nat) (w : World) (ht : TP w A ca t) (hsm : t.length ≤ 140737488351232) (h0 : 0 < n) (h1 : 1 ≤ d) (h2 : d ≤ 1099511627776) (h3 : n ≤ d) :
    Calls Try.prog 12 #[.slice A t.length ca, frac n d] w fun e w' => e = .returned (tup (tans (turnF n d t))) ∧ Below w.heap.size w w' := by
  have hB : Below w.heap.size w (w.alloc (.cells #[.int .i64 (n : Int), .int .i64 (d : Int)] 24)) := (Below.refl _ _).alloc (Nat.le_refl _) _
  have C := Lib.hid (cright_any n d (w.alloc (.cells #[.int .i64 (n : Int), .int .i64 (d : Int)] 24)))
  have HC := Lib.hid (frac_cells w n d)
  have hr : rgt n d = true := rgt_iff.2 (by omega)
  have hsz : (w.alloc (.cells #[.int .i64 (n : Int), .int .i64 (d : Int)] 24)).heap.size = w.heap.size + 1 := by simp
  have HB := Lib.hid hB
  rw [hr] at C
  clear hr
  have hl := ht.short
  have hle := ht.le
  have hcap := ht.cap
  have H := Lib.hid (ht.later hB)
  clear ht hB
  unfold frac at C
  unfold frac
  have hn0 : decide ((n : Int) < 1) = false := decide_eq_false (by omega)
  go_enter Try.func12, Try.ntmps12
  go_wp2_with fail
  refine C.out.mono ?_
  rintro e w1 ⟨rfl, hB1⟩
  have e0 := (hB1.cell (p := ⟨w.heap.size, 0, none⟩) (by simp)).trans HC.out.1
  have HB1 := Lib.hid hB1
  clear hB1 C
  generalize w.alloc (.cells #[.int .i64 (n : Int), .int .i64 (d : Int)] 24) = w0 at *
  go_wp2
  clear e0
  go_loopw [7, 8] (fun cv kv wr => ∃ c k : Nat, c ≤ t.length ∧ k ≤ c ∧ cv = .int .i64 c ∧ kv = .int .i64 (k : Int) ∧ turnF n d t = tsh k c (turnF n d (t.drop c)) ∧ Below w0.heap.size w0 wr) (fun cv _ _ => t.length - (intOf cv).toNat)
  case atStart => exact ⟨0, 0, Nat.zero_le _, Nat.le_refl _, rfl, rfl, by simp [tsh_zero], HB1.out⟩
  case round =>
    clear HB1
    obtain ⟨c, k, hc, hk, rfl, rfl, hT, hBr⟩ := hrel
    have HT := Lib.hid hT
    have HBr := Lib.hid hBr
    have e0 := (hBr.cell (p := ⟨w.heap.size, 0, none⟩) (by simp [hsz])).trans HC.out.1
    have e1 := (hBr.cell (p := ⟨w.heap.size, 1, none⟩) (by simp [hsz])).trans HC.out.2
    obtain ⟨A', hA', hTP⟩ := tail_tp (H.out.later hBr) hc
    have hlb : w.heap.size < wr.drew.heap.size := by show w.heap.size < wr.heap.size; have := hBr.size; omega
    have d0 : wr.drew.cell? ⟨w.heap.size, 0, none⟩ = some (.int .i64 (n : Int)) := e0
    have d1 : wr.drew.cell? ⟨w.heap.size, 1, none⟩ = some (.int .i64 (d : Int)) := e1
    have D := Lib.hid (And.intro hlb (And.intro d0 d1))
    clear hlb d0 d1
    have CT := Lib.hid (ctoss_any A' (ca - c) (t.drop c) n d wr.drew (hTP.later (Below.refl _ wr).drew) (by rw [List.length_drop]; omega))
    rw [List.length_drop, toss_good h1 h2 h3] at CT
    unfold ftup frac at CT
    clear hT hBr hTP
    have HF : Hid (∀ w2, Below wr.drew.heap.size wr.drew w2 → Below w0.heap.size w0 w2) := fun w2 hb => (HBr.out.drew).trans (hb.mono (by show w0.heap.size ≤ wr.heap.size; exact HBr.out.size))
    cases hx : tosG n d (t.drop c) with
    | none =>
      have E : Hid (turnF n d t = none) := HT.out.trans (by rw [turnF_none hx]; rfl)
      rw [hx] at CT
      unfold cans at CT
      clear hx HT
      go_wp2_with fail
      go_region_held3 (fun w' => w'.cell? ⟨w.heap.size, 0, none⟩ = some (.int .i64 (n : Int)) ∧ w'.cell? ⟨w.heap.size, 1, none⟩ = some (.int .i64 (d : Int))) (go_keep)
        (first | (go_at_call 10; refine CT.out.mono ?_; rintro e w2 ⟨rfl, hb2⟩; have f0 := (hb2.cell (p := ⟨w.heap.size, 0, none⟩) D.out.1).trans D.out.2.1; have f1 := (hb2.cell (p := ⟨w.heap.size, 1, none⟩) D.out.1).trans D.out.2.2; have HB2 := Lib.hid hb2; clear hb2))
      have HB3 : Hid (Below w.heap.size w w2) := HB.out.trans ((HF.out w2 HB2.out).mono HB.out.size)
      clear HB2 HF D CT HBr
      go_wp2
      go_ret3
      exact ⟨by rw [E.out]; rfl, HB3.out⟩
    | some p =>
      obtain ⟨y, u⟩ := p
      have hu := tosG_le hx
      rw [List.length_drop] at hu
      rw [hx] at CT
      unfold cans at CT
      cases y with
      | true =>
        have E : Hid (turnF n d t = some (k + 1, c + u)) := HT.out.trans (by rw [turnF_yes hx]; rfl)
        clear hx HT
        go_wp2_with fail
        go_region_held3 (fun w' => w'.cell? ⟨w.heap.size, 0, none⟩ = some (.int .i64 (n : Int)) ∧ w'.cell? ⟨w.heap.size, 1, none⟩ = some (.int .i64 (d : Int))) (go_keep)
          (first | (go_at_call 10; refine CT.out.mono ?_; rintro e w2 ⟨rfl, hb2⟩; have f0 := (hb2.cell (p := ⟨w.heap.size, 0, none⟩) D.out.1).trans D.out.2.1; have f1 := (hb2.cell (p := ⟨w.heap.size, 1, none⟩) D.out.1).trans D.out.2.2; have HB2 := Lib.hid hb2; clear hb2))
        have HB3 : Hid (Below w.heap.size w w2) := HB.out.trans ((HF.out w2 HB2.out).mono HB.out.size)
        clear HB2 HF D CT HBr
        go_wp2
        go_ret3
        exact ⟨by rw [E.out]; rfl, HB3.out⟩
      | false =>
        have E : Hid (turnF n d t = tsh (k + 1) (c + u) (turnF n d (t.drop (c + u)))) := HT.out.trans (by rw [turnF_no h0 hx, tsh_tsh, List.drop_drop])
        have hup := tosG_pos h0 hx
        clear hx HT
        go_wp2_with fail
        go_region_held3 (fun w' => w'.cell? ⟨w.heap.size, 0, none⟩ = some (.int .i64 (n : Int)) ∧ w'.cell? ⟨w.heap.size, 1, none⟩ = some (.int .i64 (d : Int))) (go_keep)
          (first | (go_at_call 10; refine CT.out.mono ?_; rintro e w2 ⟨rfl, hb2⟩; have f0 := (hb2.cell (p := ⟨w.heap.size, 0, none⟩) D.out.1).trans D.out.2.1; have f1 := (hb2.cell (p := ⟨w.heap.size, 1, none⟩) D.out.1).trans D.out.2.2; have HB2 := Lib.hid hb2; clear hb2))
        have HB3 := Lib.hid (HF.out w2 HB2.out)
        clear HB2 HF D CT HBr
        go_wp2
        go_roundw
        case rel => exact ⟨c + u, k + 1, by omega, by omega, by go_num, by go_num, E.out, HB3.out⟩
        case measure => simp [intOf]; omega

theorem cturn_any (A : Option Addr) (ca : Nat) (t : List Bool) (n d : Int) (w : World) (ht : TP w A ca t) (hsm : t.length ≤ 140737488351232) :
    Calls Try.prog 12 #[.slice A t.length ca, frac n d] w fun e w' => e = .returned (tup (turn t n d)) ∧ Below w.heap.size w w' := by
  by_cases h : rgt n d = false ∨ n = 0
  · exact cturn_bad A ca t n d w h
  · rw [not_or] at h
    have h' := rgt_iff.1 (by simpa using h.1)
    obtain ⟨a, rfl⟩ : ∃ a : Nat, n = a := ⟨n.toNat, by omega⟩
    obtain ⟨b, rfl⟩ : ∃ b : Nat, d = b := ⟨d.toNat, by omega⟩
    rw [turn_good (by omega) (by omega) (by omega) (by omega)]
    exact cturn_core A ca t a b w ht hsm (by omega) (by omega) (by omega) (by omega)
end Go.Proofs.Ytkfpomeemcmfmaa
