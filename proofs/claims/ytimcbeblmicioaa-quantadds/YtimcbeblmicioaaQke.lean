/- quant.Find. -/
import Derived.Test.YtimcbeblmicioaaQk4
import Derived.Test.YtimcbeblmicioaaQm5
namespace Go.Proofs.Ytimcbeblmicioaa
open Go.RowKit Go.Deep

theorem qfk_bd {p : Int} {S : List Rk} (hR : QR p S) {place : Int} (hp1 : 1 ≤ place) (hp2 : place ≤ 1099511627776) {k : Nat} (hk : k < S.length) : qfk place S k < 9223372036854775807 := by
  have hg : ∀ r ∈ S, 0 ≤ r.g := fun r hr => by have := (hR.each r hr).1; omega
  have h1 := qtot_take_le hg k
  have h2 := hR.each _ (rat_mem hk)
  have h3 := hR.tot
  unfold qfk qfr
  split <;> omega
theorem qfk_max (place : Int) (S : List Rk) (k : Nat) : (qtot (S.take k) + (rat S k).g + (rat S k).m - place ≤ place - (qtot (S.take k) + (rat S k).g) ∧ qfk place S k = place - (qtot (S.take k) + (rat S k).g)) ∨ (¬ qtot (S.take k) + (rat S k).g + (rat S k).m - place ≤ place - (qtot (S.take k) + (rat S k).g) ∧ qfk place S k = qtot (S.take k) + (rat S k).g + (rat S k).m - place) := by
  unfold qfk qfr
  split <;> omega
/-- What Find keeps: the first of the nearest ones so far. -/
def qFL (place : Int) (S : List Rk) (k : Nat) (a b : Int) : Prop := (k = 0 ∧ a = 0 ∧ b = 9223372036854775807) ∨ (0 < k ∧ a = (rat S (qbest (qfk place S) k)).n ∧ b = qfk place S (qbest (qfk place S) k))
theorem qFL_take {place : Int} {S : List Rk} {k : Nat} {a b : Int} (h : qFL place S k a b) (hlt : qfk place S k < b) : qFL place S (k + 1) (rat S k).n (qfk place S k) := by
  refine .inr ⟨by omega, ?_⟩
  have e : qbest (qfk place S) (k + 1) = if qfk place S k < qfk place S (qbest (qfk place S) k) then k else qbest (qfk place S) k := rfl
  rcases h with ⟨rfl, _, _⟩ | ⟨h0, _, rfl⟩
  · have : qbest (qfk place S) (0 + 1) = 0 := by
      rw [e]
      split <;> rfl
    rw [this]
    exact ⟨rfl, rfl⟩
  · rw [if_pos hlt] at e
    rw [e]
    exact ⟨rfl, rfl⟩
theorem qFL_skip {place : Int} {S : List Rk} {k : Nat} {a b : Int} (h : qFL place S k a b) (hb : qfk place S k < 9223372036854775807) (hlt : ¬ qfk place S k < b) : qFL place S (k + 1) a b := by
  rcases h with ⟨rfl, _, rfl⟩ | ⟨h0, rfl, rfl⟩
  · exact absurd hb hlt
  · have e : qbest (qfk place S) (k + 1) = if qfk place S k < qfk place S (qbest (qfk place S) k) then k else qbest (qfk place S) k := rfl
    rw [if_neg hlt] at e
    exact .inr ⟨by omega, by rw [e], by rw [e]⟩

set_option maxRecDepth 100000 in
set_option maxHeartbeats 2500000 in
theorem findQ_any (p : Int) (A : Option Addr) (ca : Nat) (S : List Rk) (place : Int) (w : World) (hS : RP w A ca S) :
    Calls Try.prog 10 #[.int .i64 p, .slice A S.length ca, .int .i64 place] w fun e w' => e = .returned (.tuple #[.int .i64 (qfindC p S place).1, .int .i64 (qfindC p S place).2]) ∧ Below w.heap.size w w' := by
  have hle := hS.le
  have hcap := hS.cap
  have HS := Lib.hid hS
  have C1 : Hid (∀ b0 : Bool, (b0 = true ↔ QR p S) → Calls Try.prog 13 #[.int .i64 p, .slice A S.length ca] w fun e w2 => e = .returned (.bool b0) ∧ Below w.heap.size w w2) := fun b0 h0 => right_any p A ca S w b0 hS h0
  clear hS
  by_cases hR : QR p S
  · have CR := Lib.hid (C1.out true ⟨fun _ => hR, fun _ => rfl⟩)
    have hg : ∀ r ∈ S, 0 ≤ r.g := fun r hr => by have := (hR.each r hr).1; omega
    have ht := hR.tot
    have CT : Hid (∀ w', Below w.heap.size w w' → Calls Try.prog 16 #[.slice A S.length ca] w' fun e w2 => e = .returned (.int .i64 (qtot S)) ∧ Below w'.heap.size w' w2) := fun w' hb => count_any A ca S w' (HS.out.later hb) hg (by omega)
    have E : Hid (qfindC p S place = if 1 ≤ place ∧ place ≤ qtot S then ((rat S (qbest (qfk place S) S.length)).n, 0) else (0, 3)) := by show _ = _; unfold qfindC; rw [if_pos hR]
    by_cases hp : place < 1
    · rw [E.out, if_neg (by omega)]
      clear hR C1 E CT
      dsimp only
      go_enter Try.func10, Try.ntmps10
      go_wp2_with fail
      refine CR.out.mono ?_
      rintro e w1 ⟨rfl, hb⟩
      have HB1 := Lib.hid hb
      clear hb CR
      go_wp2
      go_ret2
      exact ⟨rfl, HB1.out⟩
    · by_cases hp2 : qtot S < place
      · rw [E.out, if_neg (by omega)]
        clear hR C1 E
        dsimp only
        go_enter Try.func10, Try.ntmps10
        go_wp2_with fail
        refine CR.out.mono ?_
        rintro e w1 ⟨rfl, hb⟩
        have HB1 := Lib.hid hb
        clear hb CR
        go_wp2_with fail
        refine (CT.out _ HB1.out).mono ?_
        rintro e w2 ⟨rfl, hb⟩
        have HB2 := Lib.hid (HB1.out.trans (hb.mono HB1.out.size))
        clear hb CT
        go_wp2
        go_ret2
        exact ⟨rfl, HB2.out⟩
      · rw [E.out, if_pos (by omega)]
        dsimp only
        have hne : 0 < S.length := by
          cases S with
          | nil => simp [qtot] at hp2; omega
          | cons a l => simp
        have HR := Lib.hid hR
        have HTT := Lib.hid (fun k => qtot_take_le (k := k) hg)
        have HBD := Lib.hid (fun (k : Nat) (hk : k < S.length) => qfk_bd hR (by omega) (show place ≤ 1099511627776 by omega) hk)
        clear hR C1 E hg
        go_enter Try.func10, Try.ntmps10
        go_wp2_with fail
        refine CR.out.mono ?_
        rintro e w1 ⟨rfl, hb⟩
        have HB1 := Lib.hid hb
        clear hb CR
        go_wp2_with fail
        refine (CT.out _ HB1.out).mono ?_
        rintro e w2 ⟨rfl, hb⟩
        have HB2 := Lib.hid (HB1.out.trans (hb.mono HB1.out.size))
        clear hb CT
        go_wp2_with fail
        go_loopw [8, 9, 10, 28] (fun av bv sv iv wr => ∃ (k : Nat) (a b : Int), k ≤ S.length ∧ iv = .int .i64 k ∧ sv = .int .i64 (qtot (S.take k)) ∧ av = .int .i64 a ∧ bv = .int .i64 b ∧ qFL place S k a b ∧ Below w.heap.size w wr) (fun _ _ _ iv _ => S.length - (intOf iv).toNat)
        case atStart => exact ⟨0, 0, 9223372036854775807, by omega, rfl, rfl, rfl, rfl, .inl ⟨rfl, rfl, rfl⟩, HB2.out⟩
        case round =>
          clear HB2 HB1
          obtain ⟨k, a, b, hk, rfl, rfl, rfl, rfl, hF, hB⟩ := hrel
          have HF := Lib.hid hF
          have HB := Lib.hid hB
          clear hF hB
          by_cases hlt : k < S.length
          · obtain ⟨bs, off, rfl, _, hcell⟩ := (HS.out.later HB.out).il (by omega)
            obtain ⟨c0, c1, c2⟩ := hcell k hlt
            have hs1 := HTT.out k
            have hs2 := HTT.out (k + 1)
            have ET := qtot_take hlt
            have HET := Lib.hid ET
            rw [ET] at hs2
            obtain ⟨e1, e2, e3, e4⟩ := HR.out.each _ (rat_mem hlt)
            have hki : (k : Int) < (S.length : Int) := by omega
            have HBN := Lib.hid (HB.out.alloc HB.out.size (.cells #[.int .i64 (rat S k).n, .int .i64 (rat S k).g, .int .i64 (rat S k).m] 33))
            have hmx := qfk_max place S k
            have HTK := Lib.hid (fun h => qFL_take HF.out (k := k) h)
            have HSK := Lib.hid (fun h => qFL_skip HF.out (HBD.out k hlt) h)
            clear hcell ET HF
            generalize qfk place S k = D at *
            generalize qtot (S.take k) = s at *
            generalize (rat S k).n = x at *
            generalize (rat S k).g = y at *
            generalize (rat S k).m = z at *
            by_cases hc : D < b
            · have HX := Lib.hid (HTK.out hc)
              clear HTK HSK
              rcases hmx with ⟨hm, rfl⟩ | ⟨hm, rfl⟩
              all_goals
                go_wp2
                go_roundw
                case rel => exact ⟨k + 1, _, _, by omega, by go_num, by rw [HET.out], rfl, rfl, HX.out, HBN.out⟩
                case measure => simp [intOf]; omega
            · have HX := Lib.hid (HSK.out hc)
              clear HTK HSK
              rcases hmx with ⟨hm, rfl⟩ | ⟨hm, rfl⟩
              all_goals
                go_wp2
                go_roundw
                case rel => exact ⟨k + 1, _, _, by omega, by go_num, by rw [HET.out], rfl, rfl, HX.out, HBN.out⟩
                case measure => simp [intOf]; omega
          · obtain rfl : k = S.length := by omega
            have hf := HF.out
            rcases hf with ⟨h0, _⟩ | ⟨h0, rfl, rfl⟩
            · omega
            · clear HF
              go_wp2
              go_ret2
              exact ⟨rfl, HB.out⟩
  · have CR := Lib.hid (C1.out false ⟨(fun h => by cases h), fun h => absurd h hR⟩)
    have E : Hid (qfindC p S place = (0, 1)) := by show _ = _; unfold qfindC; rw [if_neg hR]
    rw [E.out]
    clear hR C1 E
    dsimp only
    go_enter Try.func10, Try.ntmps10
    go_wp2_with fail
    refine CR.out.mono ?_
    rintro e w1 ⟨rfl, hb⟩
    have HB1 := Lib.hid hb
    clear hb CR
    go_wp2
    go_ret2
    exact ⟨rfl, HB1.out⟩
end Go.Proofs.Ytimcbeblmicioaa
