/- lotdrawerref.OFind. -/
import Derived.Test.YtimcbeblmicioaaQm1
import Derived.Test.YtimcbeblmicioaaQm3
import Derived.Deep.RegionHeld3
import Derived.Shelf.Abstract
namespace Go.Proofs.Ytimcbeblmicioaa
open Go.RowKit Go.Deep

theorem RP.take {w : World} {A : Option Addr} {ca : Nat} {S : List Rk} (h : RP w A ca S) (k : Nat) : RP w A ca (S.take k) := by
  refine ⟨fun h0 => ?_, by rw [List.length_take]; have := h.le; omega, h.cap, h.none⟩
  rw [List.length_take] at h0
  obtain ⟨b, off, e, hb, hc⟩ := h.il (by omega)
  refine ⟨b, off, e, hb, fun i hi => ?_⟩
  rw [List.length_take] at hi
  have e2 : rat (S.take k) i = rat S i := by
    unfold rat
    simp [List.getD_eq_getElem?_getD, List.getElem?_take, show i < k by omega]
  rw [e2]
  exact hc i (by omega)
/-- How far entry k stands. -/
def qfk (place : Int) (S : List Rk) (k : Nat) : Int := qfr place (qtot (S.take k)) (rat S k)
/-- The first of the nearest among the first k. -/
def qbest (f : Nat → Int) : Nat → Nat
  | 0 => 0
  | k + 1 => if f k < f (qbest f k) then k else qbest f k
theorem qbest_lt (f : Nat → Int) : ∀ {n : Nat}, 0 < n → qbest f n < n
  | 1, _ => by unfold qbest; split <;> simp [qbest]
  | n + 2, _ => by
    have := qbest_lt f (n := n + 1) (by omega)
    unfold qbest
    split <;> omega
theorem qbest_le (f : Nat → Int) : ∀ {n k : Nat}, k < n → f (qbest f n) ≤ f k
  | n + 1, k, h => by
    unfold qbest
    by_cases e : k = n
    · subst e
      split <;> omega
    · have := qbest_le f (n := n) (k := k) (by omega)
      split <;> omega
open Classical in
/-- What Find answers. -/
noncomputable def qfindC (p : Int) (S : List Rk) (place : Int) : Int × Int :=
  if QR p S then (if 1 ≤ place ∧ place ≤ qtot S then ((rat S (qbest (qfk place S) S.length)).n, 0) else (0, 3)) else (0, 1)
theorem qfr_eq (place a : Int) (r : Rk) : (if a + r.g + r.m - place < place - (a + r.g) then place - (a + r.g) else a + r.g + r.m - place) = qfr place a r := by
  unfold qfr
  split <;> split <;> omega

theorem enters_far (args : Array Value) (w : World) : (callFunc 26 args).run Try.prog w = .ok (.enter 26 args) w := enters_of Try.func26 (by kernel_rfl) rfl args w
set_option maxRecDepth 100000 in
set_option maxHeartbeats 2000000 in
theorem far_any {p : Int} {S : List Rk} (hR : QR p S) (A : Option Addr) (ca : Nat) (place : Int) (hp1 : 1 ≤ place) (hp2 : place ≤ 1099511627776) (G1 G2 k : Nat) (w : World) (hk : k < S.length) (hS : RP w A ca S) (h1 : w.cell? ⟨G1, 0, none⟩ = some (.slice A S.length ca)) (h2 : w.cell? ⟨G2, 0, none⟩ = some (.int .i64 place)) (hl1 : G1 < w.heap.size) (hl2 : G2 < w.heap.size) :
    Calls Try.prog 26 #[.int .i64 k, .pointer (some ⟨G1, 0, none⟩), .pointer (some ⟨G2, 0, none⟩)] w fun e w' => e = .returned (.int .i64 (qfk place S k)) ∧ Below w.heap.size w w' := by
  have hg : ∀ r ∈ S, 0 ≤ r.g := fun r hr => by have := (hR.each r hr).1; omega
  have hle := hS.le
  have hcap := hS.cap
  have h400 := hR.len
  have ht := hR.tot
  have htk := qtot_take_le hg (k + 1)
  have htk0 := qtot_take_le hg k
  have C := Lib.hid (oall_any A ca (S.take (k + 1)) w (hS.take _) (fun r hr => hg r (List.mem_of_mem_take hr)) (by omega))
  rw [List.length_take, show min (k + 1) S.length = k + 1 by omega] at C
  have ee := qtot_take hk
  have em := hR.each _ (rat_mem hk)
  have hq := qfr_eq place (qtot (S.take k)) (rat S k)
  have HE : qfk place S k = qfr place (qtot (S.take k)) (rat S k) := rfl
  rw [← hq] at HE
  have HF := Lib.hid HE
  rw [ee] at C htk
  have HC := Lib.hid hS
  obtain ⟨b, off, rfl, _, _⟩ := hS.il (by omega)
  have hki : (k : Int) < (S.length : Int) := by omega
  obtain ⟨k1, hk0⟩ : ∃ k1, k + 1 = k1 := ⟨_, rfl⟩
  rw [hk0] at C
  have hk1 : (k : Int) + 1 = (k1 : Int) := by omega
  have hk2 : (k1 : Int) ≤ (ca : Int) := by omega
  clear hk0
  clear hS hR hg ee hq HE
  generalize qfk place S k = F at *
  generalize qtot (S.take k) = s at *
  go_enter Try.func26, Try.ntmps26
  go_wp2_with fail
  refine C.out.mono ?_
  rintro e w1 ⟨rfl, hb⟩
  obtain ⟨b', off', e', _, hcell⟩ := (HC.out.later hb).il (by omega)
  cases e'
  obtain ⟨c0, c1, c2⟩ := hcell k hk
  have d1 := (hb.cell (p := ⟨G1, 0, none⟩) hl1).trans h1
  have d2 := (hb.cell (p := ⟨G2, 0, none⟩) hl2).trans h2
  have HB := Lib.hid hb
  clear hcell hb HC h1 h2 C
  generalize (rat S k).n = x at *
  generalize (rat S k).g = y at *
  generalize (rat S k).m = z at *
  go_wp2_with fail
  go_quiet (fail)
  by_cases hc : s + y + z - place < place - (s + y)
  · go_wp2
    go_ret
    exact ⟨retI (by rw [HF.out, if_pos hc]), below_drewN HB.out _⟩
  · go_wp2
    go_ret
    exact ⟨retI (by rw [HF.out, if_neg (by omega)]), below_drewN HB.out _⟩

set_option maxRecDepth 100000 in
set_option maxHeartbeats 4000000 in
theorem ofind_any (p : Int) (A : Option Addr) (ca : Nat) (S : List Rk) (place : Int) (w : World) (hS : RP w A ca S) :
    Calls Try.prog 11 #[.int .i64 p, .slice A S.length ca, .int .i64 place] w fun e w' => e = .returned (.tuple #[.int .i64 (qfindC p S place).1, .int .i64 (qfindC p S place).2]) ∧ Below w.heap.size w w' := by
  have hmf : ∀ (fn : Fn) (first cap : Array Value) (w : World), (Instr.makeFunc fn first cap).run Try.prog w = .ok (.func fn first cap) w := fun _ _ _ _ => rfl
  have hen := enters_far
  have hle := hS.le
  have hcap := hS.cap
  have b2 : Below w.heap.size w ((w.alloc (.cells #[.slice A S.length ca] 22)).alloc (.cells #[.int .i64 place] 3)) := ((Below.refl _ _).alloc (Nat.le_refl _) _).alloc (by simp) _
  have C1 : Hid (∀ w' : World, Below w.heap.size w w' → ∀ b0 : Bool, (b0 = true ↔ QR p S) → Calls Try.prog 14 #[.int .i64 p, .slice A S.length ca] w' fun e w2 => e = .returned (.bool b0) ∧ Below w'.heap.size w' w2) := fun w' hb b0 h0 => oright_any p A ca S w' (hS.later hb) b0 h0
  have x1 : ((w.alloc (.cells #[.slice A S.length ca] 22)).alloc (.cells #[.int .i64 place] 3)).cell? ⟨w.heap.size, 0, none⟩ = some (.slice A S.length ca) := cell_of_row _ w.heap.size 0 #[.slice A S.length ca] 22 (0, 0) ((heap_alloc_old _ (.cells #[.int .i64 place] 3) (by simp)).trans (heap_alloc_new w _))
  have x2 : ((w.alloc (.cells #[.slice A S.length ca] 22)).alloc (.cells #[.int .i64 place] 3)).cell? ⟨w.heap.size + 1, 0, none⟩ = some (.int .i64 place) := cell_of_row _ (w.heap.size + 1) 0 #[.int .i64 place] 3 (0, 0) (heap_alloc2_new w (.cells #[.slice A S.length ca] 22) _)
  have HX : Hid (∀ w', Below (w.heap.size + 2) ((w.alloc (.cells #[.slice A S.length ca] 22)).alloc (.cells #[.int .i64 place] 3)) w' → w'.cell? ⟨w.heap.size, 0, none⟩ = some (.slice A S.length ca) ∧ w'.cell? ⟨w.heap.size + 1, 0, none⟩ = some (.int .i64 place)) := fun w' hb => ⟨(hb.cell (p := ⟨w.heap.size, 0, none⟩) (by show w.heap.size < w.heap.size + 2; omega)).trans x1, (hb.cell (p := ⟨w.heap.size + 1, 0, none⟩) (by show w.heap.size + 1 < w.heap.size + 2; omega)).trans x2⟩
  have HS := Lib.hid hS
  have hsz : ((w.alloc (.cells #[.slice A S.length ca] 22)).alloc (.cells #[.int .i64 place] 3)).heap.size = w.heap.size + 2 := by simp
  have HB0 := Lib.hid b2
  obtain ⟨w0, hw0⟩ : ∃ w0, (w.alloc (.cells #[.slice A S.length ca] 22)).alloc (.cells #[.int .i64 place] 3) = w0 := ⟨_, rfl⟩
  rw [hw0] at HX HB0 hsz
  have HX0 := HX.out w0 (Below.refl _ _)
  obtain ⟨y1, y2⟩ := HX0
  have HSZ := Lib.hid hsz
  clear hS b2 x1 x2 hsz
  by_cases hR : QR p S
  · have CR := Lib.hid (C1.out w0 HB0.out true ⟨fun _ => hR, fun _ => rfl⟩)
    have hg : ∀ r ∈ S, 0 ≤ r.g := fun r hr => by have := (hR.each r hr).1; omega
    have ht := hR.tot
    have CT : Hid (∀ w', Below w.heap.size w w' → Calls Try.prog 17 #[.slice A S.length ca] w' fun e w2 => e = .returned (.int .i64 (qtot S)) ∧ Below w'.heap.size w' w2) := fun w' hb => oall_any A ca S w' (HS.out.later hb) hg (by omega)
    have hm : ∀ w', Below w0.heap.size w0 w' → Below (w.heap.size + 2) w0 w' := fun w' hb => by have := HSZ.out; exact hb.mono (by omega)
    have HM := Lib.hid hm
    have hne : qtot S ≥ 1 → 0 < S.length := fun h => by
      cases S with
      | nil => simp [qtot] at h
      | cons a l => simp
    have HNE := Lib.hid hne
    have HRR := Lib.hid hR
    have E : Hid (qfindC p S place = if 1 ≤ place ∧ place ≤ qtot S then ((rat S (qbest (qfk place S) S.length)).n, 0) else (0, 3)) := if_pos hR
    clear hR hg C1 hm hne
    go_enter Try.func11, Try.ntmps11
    go_wp2_with fail
    refine CR.out.mono ?_
    rintro e w1 ⟨rfl, hb⟩
    obtain ⟨z1, z2⟩ := HX.out w1 (HM.out w1 hb)
    have HB1 := Lib.hid (HB0.out.trans (hb.mono HB0.out.size))
    have HD1 := Lib.hid (HM.out w1 hb)
    clear hb y1 y2 CR
    by_cases hp : place < 1
    · have hd : decide (place < 1) = true := decide_eq_true hp
      have E2 : Hid (qfindC p S place = (0, 3)) := by show _ = _; rw [E.out, if_neg (by omega)]
      clear E CT
      go_wp2_with fail
      go_quiet (fail)
      go_wp2
      go_ret2
      exact ⟨by rw [E2.out]; rfl, below_drewN HB1.out _⟩
    · have hd : decide (place < 1) = false := decide_eq_false hp
      have CTT := Lib.hid (CT.out w1.drew HB1.out.drew)
      have hs1 : w.heap.size + 2 ≤ w1.drew.heap.size := by
        have h1 := HD1.out.size
        have h2 := HSZ.out
        show _ ≤ w1.heap.size
        omega
      have v1 : w1.drew.cell? ⟨w.heap.size, 0, none⟩ = some (.slice A S.length ca) := z1
      have v2 : w1.drew.cell? ⟨w.heap.size + 1, 0, none⟩ = some (.int .i64 place) := z2
      have D := Lib.hid (And.intro hs1 (And.intro v1 v2))
      clear CT hs1 v1 v2
      go_wp2_with fail
      go_region_held3 (fun w' => w'.cell? ⟨w.heap.size, 0, none⟩ = some (.slice A S.length ca) ∧ w'.cell? ⟨w.heap.size + 1, 0, none⟩ = some (.int .i64 place)) (go_keep)
        (first | (go_at_call 17; refine CTT.out.mono ?_; rintro e w2 ⟨rfl, hb2⟩; have f0 := (hb2.cell (p := ⟨w.heap.size, 0, none⟩) (by have := D.out.1; show w.heap.size < _; omega)).trans D.out.2.1; have f1 := (hb2.cell (p := ⟨w.heap.size + 1, 0, none⟩) (by have := D.out.1; show w.heap.size + 1 < _; omega)).trans D.out.2.2; have HB2 := Lib.hid hb2; clear hb2))
      have HB3 := Lib.hid (HB1.out.drew.trans (HB2.out.mono HB1.out.drew.size))
      have HD3 := Lib.hid (HD1.out.drew.trans (HB2.out.mono D.out.1))
      clear HB2 HB1 HD1 CTT D z1 z2
      by_cases hq : qtot S < place
      · have E2 : Hid (qfindC p S place = (0, 3)) := by show _ = _; rw [E.out, if_neg (by omega)]
        clear E
        go_wp2
        go_ret2
        exact ⟨by rw [E2.out]; rfl, HB3.out⟩
      · have E2 : Hid (qfindC p S place = ((rat S (qbest (qfk place S) S.length)).n, 0)) := by show _ = _; rw [E.out, if_pos (by omega)]
        have hlen := HNE.out (by omega)
        have CF : Hid (∀ (k : Nat) (w' : World), k < S.length → Below (w.heap.size + 2) w0 w' → Calls Try.prog 26 #[.int .i64 k, .pointer (some ⟨w.heap.size, 0, none⟩), .pointer (some ⟨w.heap.size + 1, 0, none⟩)] w' fun e w2 => e = .returned (.int .i64 (qfk place S k)) ∧ Below w'.heap.size w' w2) := fun k w' hk hb => by
          have h1 := HX.out w' hb
          have h2 := HSZ.out
          have h3 := hb.size
          exact far_any HRR.out A ca place (by omega) (by omega) w.heap.size (w.heap.size + 1) k w' hk (HS.out.later (HB0.out.trans (hb.mono (by omega)))) h1.1 h1.2 (by omega) (by omega)
        have HBL := Lib.hid (fun k => qbest_lt (qfk place S) (n := k))
        have HH : Hid (∀ wr, Below (w.heap.size + 2) w0 wr → Below w.heap.size w wr) := fun wr hb => HB0.out.trans (hb.mono (by omega))
        clear E HB3
        go_wp2_with fail
        go_loopw [9, 26] (fun bv iv wr => ∃ k : Nat, k ≤ S.length ∧ iv = .int .i64 k ∧ bv = .int .i64 (qbest (qfk place S) k : Nat) ∧ Below (w.heap.size + 2) w0 wr) (fun _ iv _ => S.length - (intOf iv).toNat)
        case atStart => exact ⟨0, by omega, rfl, rfl, HD3.out⟩
        case round =>
          clear HD3 f0 f1
          obtain ⟨k, hk, rfl, rfl, hD⟩ := hrel
          have HD := Lib.hid hD
          obtain ⟨z1, z2⟩ := HX.out wr hD
          clear hD
          by_cases hlt : k < S.length
          · have hki : (k : Int) < (S.length : Int) := by omega
            have K1 := Lib.hid (CF.out k wr hlt HD.out)
            have hbk : qbest (qfk place S) k < S.length := by
              by_cases e : k = 0
              · subst e; exact hlt
              · have := HBL.out k (by omega); omega
            have K2 := Lib.hid (fun w' hb => CF.out (qbest (qfk place S) k) w' hbk hb)
            have hsw : Hid (∀ w', Below wr.heap.size wr w' → Below (w.heap.size + 2) w0 w') := fun w' hb => HD.out.trans (hb.mono (by have h1 := HD.out.size; have h2 := HSZ.out; omega))
            have HQ : Hid (qbest (qfk place S) (k + 1) = if qfk place S k < qfk place S (qbest (qfk place S) k) then k else qbest (qfk place S) k) := rfl
            generalize qbest (qfk place S) k = j at *
            generalize qfk place S j = fj at *
            generalize qfk place S k = fk at *
            go_wp2_with fail
            refine K1.out.mono ?_
            rintro e w3 ⟨rfl, hb3⟩
            have HD3 := Lib.hid (hsw.out w3 hb3)
            clear hb3 K1
            go_wp2_with fail
            refine (K2.out w3 HD3.out).mono ?_
            rintro e w4 ⟨rfl, hb4⟩
            have HD4 := Lib.hid (HD3.out.trans (hb4.mono (by have h1 := HD3.out.size; have h2 := HSZ.out; omega)))
            clear hb4 K2 HD3
            by_cases hc : fk < fj
            · rw [if_pos hc] at HQ
              go_wp2
              go_roundw
              case rel => exact ⟨k + 1, by omega, by go_num, by rw [HQ.out], HD4.out⟩
              case measure => simp [intOf]; omega
            · rw [if_neg hc] at HQ
              go_wp2
              go_roundw
              case rel => exact ⟨k + 1, by omega, by go_num, by rw [HQ.out], HD4.out⟩
              case measure => simp [intOf]; omega
          · obtain rfl : k = S.length := by omega
            have hj := HBL.out S.length hlen
            obtain ⟨bl, off, rfl, _, hcell⟩ := (HS.out.later (HH.out wr HD.out)).il hlen
            have c0 := (hcell _ hj).1
            have hji : (qbest (qfk place S) S.length : Int) < (S.length : Int) := by omega
            have HE := Lib.hid (HH.out wr HD.out)
            clear hcell
            generalize qbest (qfk place S) S.length = j at *
            go_wp2
            go_ret2
            exact ⟨by rw [E2.out]; rfl, HE.out⟩
  · have CR := Lib.hid (C1.out w0 HB0.out false ⟨(fun h => by cases h), fun h => absurd h hR⟩)
    have E : Hid (qfindC p S place = (0, 1)) := if_neg hR
    rw [E.out]
    clear hR C1
    go_enter Try.func11, Try.ntmps11
    go_wp2_with fail
    refine CR.out.mono ?_
    rintro e w1 ⟨rfl, hb⟩
    have HB1 := Lib.hid (HB0.out.trans (hb.mono HB0.out.size))
    clear hb
    go_wp2
    go_ret2
    exact ⟨rfl, HB1.out⟩
end Go.Proofs.Ytimcbeblmicioaa
