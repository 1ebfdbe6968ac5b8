/- alias.Make. -/
import Derived.Test.YtjhcbjpbmbjgoaaH1
import Derived.Test.YtjhcbjpbmbjgoaaH3
import Derived.Test.YtjhcbjpbmbjgoaaH4
import Derived.Test.YtjhcbjpbmbjgoaaH5
import Derived.StillTailTactics
import Derived.IntWalk
namespace Go.Proofs.Ytjhcbjpbmbjgoaa
open Go.RowKit Go.Deep

theorem avs_inj : ∀ {S T : AT}, avs S = avs T → S = T
  | [], [], _ => rfl
  | [], e :: r, h => by simp [avs] at h
  | e :: r, [], h => by simp [avs] at h
  | (a, b) :: r, (c, d) :: s, h => by
    simp only [avs, List.cons.injEq, Value.int.injEq, true_and] at h
    obtain ⟨rfl, rfl, h⟩ := h
    rw [avs_inj h]
theorem AB.inj {w : World} {g : Nat} {S T : AT} (h : AB w g S) (k : AB w g T) : S = T := by
  unfold AB Bs at *
  rw [h] at k
  simp at k
  exact avs_inj k
/-- The table that lies in block g. -/
noncomputable def tabOf (w : World) (g : Nat) : AT := Classical.epsilon (fun S => AB w g S)
theorem tabOf_eq {w : World} {g : Nat} {S : AT} (h : AB w g S) : tabOf w g = S := (Classical.epsilon_spec (p := fun S => AB w g S) ⟨S, h⟩).inj h

/-- What Make answers. -/
def makeC (W : List Int) : AT × Int := if (sumC W).2 = 0 then (makeA W, 0) else ([], (sumC W).2)
theorem sumC_ok {W : List Int} (h : (sumC W).2 = 0) : WR W ∧ sumC W = (sumW W, 0) ∧ sumW W ≠ 0 := by
  unfold sumC at h ⊢
  by_cases h1 : WR W
  · rw [if_pos h1] at h ⊢
    by_cases h2 : sumW W = 0
    · rw [if_pos h2] at h; simp at h
    · rw [if_neg h2]; exact ⟨h1, rfl, h2⟩
  · rw [if_neg h1] at h; simp at h
theorem sumC_err (W : List Int) : (sumC W).2 = 0 ∨ sumC W = (0, 2) ∨ sumC W = (0, 3) := by
  unfold sumC
  by_cases h1 : WR W
  · rw [if_pos h1]
    by_cases h2 : sumW W = 0
    · rw [if_pos h2]; exact .inr (.inr rfl)
    · rw [if_neg h2]; exact .inl rfl
  · rw [if_neg h1]; exact .inr (.inl rfl)
theorem WR.nonneg {W : List Int} (h : WR W) : ∀ x ∈ W, 0 ≤ x := fun x hx => (h.2.2 x hx).1
/-- A table and an error as they come back. -/
def APost (w : World) (r : AT × Int) (e : Ending) (w' : World) : Prop := ∃ R ca, e = .returned (.tuple #[.slice R r.1.length ca, .int .i64 r.2]) ∧ AP w' R ca r.1 ∧ Below w.heap.size w w'
theorem apost_none {w w' : World} {e : Int} (h : Below w.heap.size w w') : APost w ([], e) (.returned (.tuple #[.slice none 0 0, .int .i64 e])) w' :=
  ⟨none, 0, rfl, ⟨fun h => by simp at h, by simp, by omega, fun _ => rfl⟩, h⟩
/-- What the loop keeps. -/
structure MkR (w : World) (W : List Int) (S : AT) (wr : World) : Prop where
  inv : InvA (sumW W) W S
  m : ∃ m : Nat, sumA opA 0 S ≤ (m : Int) ∧ runA (sumW W) m S = makeA W
  ab : AB wr w.heap.size S
  bel : Below w.heap.size w wr
theorem lev_bound {s : Int} {W : List Int} {S : AT} (h : InvA s W S) (hR : WR W) {i : Nat} (hi : i < S.length) : 0 ≤ lev S i ∧ lev S i ≤ 419430400 := by
  have h1 := h.lo i hi
  have h2 := h.up i hi
  have h3 := hR.2.2 _ (memW (W := W) (k := i) (by rw [← h.len]; exact hi))
  have h4 := mul_bound h3.1 h3.2 hR.2.1
  omega

set_option maxRecDepth 100000 in
set_option maxHeartbeats 4000000 in
theorem make_any (A : Option Addr) (ca : Nat) (W : List Int) (w : World) (hW : IP w A ca W) :
    Calls Try.prog 15 #[.slice A W.length ca] w (APost w (makeC W)) := by
  have hle := hW.le
  have hcap := hW.cap
  have CS := Lib.hid (sum_any A ca W w hW)
  unfold ptup at CS
  rcases sumC_err W with h | h | h
  · have E : Hid (makeC W = (makeA W, 0)) := if_pos h
    obtain ⟨hR, he, hs0⟩ := sumC_ok h
    have CO := Lib.hid (open_any A ca W w hW hR)
    have hsl := sumW_le hR.2.2
    have hn4 := hR.2.1
    have hn1 := hR.1
    have HI := Lib.hid (initA_inv hR.nonneg)
    have HR := Lib.hid hR
    have HS0 := Lib.hid hs0
    rw [he] at CS
    clear h he hR hs0 hW
    go_enter Try.func15, Try.ntmps15
    go_wp2_with fail
    refine CS.out.mono ?_
    rintro e w0 ⟨rfl, rfl⟩
    clear CS
    go_wp2_with fail
    refine CO.out.mono ?_
    rintro e w1 ⟨rfl, hAB, hB⟩
    have HAB := Lib.hid hAB
    have HB := Lib.hid hB
    have CL := Lib.hid (firstLow_any (some ⟨w.heap.size, 0, none⟩) W.length (initA W) (sumW W) w1 (by have := hAB.ap (by rw [initA_len]; omega); rw [initA_len] at this; exact this))
    rw [initA_len] at CL
    clear hAB hB CO
    go_wp2_with fail
    refine CL.out.mono ?_
    rintro e w2 ⟨rfl, hb2⟩
    have HAB2 := Lib.hid (HAB.out.later hb2)
    have HB2 := Lib.hid (HB.out.trans (hb2.mono HB.out.size))
    have CH := Lib.hid (firstHigh_any (some ⟨w.heap.size, 0, none⟩) W.length (initA W) (sumW W) w2 (by have := HAB2.out.ap (by rw [initA_len]; omega); rw [initA_len] at this; exact this))
    rw [initA_len] at CH
    clear hb2 CL HAB HB
    go_wp2_with fail
    refine CH.out.mono ?_
    rintro e w3 ⟨rfl, hb3⟩
    have HAB3 := Lib.hid (HAB2.out.later hb3)
    have HB3 := Lib.hid (HB2.out.trans (hb3.mono HB2.out.size))
    clear hb3 CH HAB2 HB2
    go_wp2_with fail
    go_loopw [7, 8] (fun lv hv wr => ∃ S : AT, lv = .int .i64 (loI (sumW W) S) ∧ hv = .int .i64 (hiI (sumW W) S) ∧ MkR w W S wr) (fun _ _ wr => (sumA opA 0 (tabOf wr w.heap.size)).toNat)
    case atStart => exact ⟨initA W, rfl, rfl, HI.out, ⟨W.length, by have := (opA_le (S := initA W)).2; rw [initA_len] at this; exact this, rfl⟩, HAB3.out, HB3.out⟩
    case round =>
      clear HAB3 HB3
      obtain ⟨S, rfl, rfl, hM⟩ := hrel
      have HM := Lib.hid hM
      have hlen := hM.inv.len
      clear hM HI
      rcases lo_cases (sumW W) S with ⟨l1, _⟩ | ⟨L, l1, l2, l3, l4⟩
      · have HE : Hid (makeA W = S) := by
          obtain ⟨m, _, hr⟩ := HM.out.m
          rw [runA_stop (by omega)] at hr
          exact hr.symm
        have HP : Hid (APost w (makeC W) (.returned (.tuple #[.slice (some ⟨w.heap.size, 0, none⟩) W.length W.length, .int .i64 0])) wr) := by
          show APost _ _ _ _
          rw [E.out, HE.out]
          refine ⟨some ⟨w.heap.size, 0, none⟩, W.length, by rw [← hlen], ?_, HM.out.bel⟩
          have := HM.out.ab.ap (by omega)
          rw [hlen] at this
          exact this
        rw [l1]
        clear hlen
        go_wp2
        go_ret2
        exact HP.out
      rcases hi_cases (sumW W) S with ⟨k1, _⟩ | ⟨H, k1, k2, k3⟩
      · have HE : Hid (makeA W = S) := by
          obtain ⟨m, _, hr⟩ := HM.out.m
          rw [runA_stop (by omega)] at hr
          exact hr.symm
        have HP : Hid (APost w (makeC W) (.returned (.tuple #[.slice (some ⟨w.heap.size, 0, none⟩) W.length W.length, .int .i64 0])) wr) := by
          show APost _ _ _ _
          rw [E.out, HE.out]
          refine ⟨some ⟨w.heap.size, 0, none⟩, W.length, by rw [← hlen], ?_, HM.out.bel⟩
          have := HM.out.ab.ap (by omega)
          rw [hlen] at this
          exact this
        rw [l1, k1]
        clear hlen l1 l3
        go_wp2
        go_ret2
        exact HP.out
      · obtain ⟨hinv, hop, t3, hne⟩ := HM.out.inv.step l2 k2 l3 l4 k3
        have bL := lev_bound HM.out.inv HR.out l2
        have bH := lev_bound HM.out.inv HR.out k2
        have hpl : (pairA (sumW W) S L H).length = W.length := by rw [pairA_len]; exact hlen
        have hab1 := HM.out.ab.set1 l2 (H : Int)
        have hz : (S.set L (lev S L, (H : Int))).length = S.length := by simp
        have e1 : lev (S.set L (lev S L, (H : Int))) L = lev S L := by unfold lev; rw [getD_set_same l2]
        have e2 : lev (S.set L (lev S L, (H : Int))) H = lev S H ∧ too (S.set L (lev S L, (H : Int))) H = too S H := by unfold lev too; rw [getD_set_other hne]; exact ⟨rfl, rfl⟩
        have cL := (hab1.at (i := L) (by rw [hz]; exact l2)).1
        have cH := (hab1.at (i := H) (by rw [hz]; exact k2)).1
        rw [e1] at cL
        rw [e2.1] at cH
        have fL := HM.out.ab.frozen (L * 2 + 1)
        have cT := (HM.out.ab.at l2).2
        have fH := hab1.frozen (H * 2)
        have hab2 : AB ((wr.setCell ⟨w.heap.size, L * 2 + 1, none⟩ (.int .i64 (H : Int))).drew.setCell ⟨w.heap.size, H * 2, none⟩ (.int .i64 (lev S H - (sumW W - lev S L)))) w.heap.size (pairA (sumW W) S L H) := by
          have h1 : AB (wr.setCell ⟨w.heap.size, L * 2 + 1, none⟩ (.int .i64 (H : Int))).drew w.heap.size (S.set L (lev S L, (H : Int))) := hab1
          have := h1.set0 (i := H) (by rw [hz]; exact k2) (lev S H - (sumW W - lev S L))
          rw [e2.2] at this
          exact this
        have hb2 : Below w.heap.size w ((wr.setCell ⟨w.heap.size, L * 2 + 1, none⟩ (.int .i64 (H : Int))).drew.setCell ⟨w.heap.size, H * 2, none⟩ (.int .i64 (lev S H - (sumW W - lev S L)))) := ((HM.out.bel.setCell (Nat.le_refl _) _).drew).setCell (Nat.le_refl _) _
        have hap2 := hab2.ap (by rw [hpl]; omega)
        rw [hpl] at hap2
        have CL := Lib.hid (firstLow_any _ _ (pairA (sumW W) S L H) (sumW W) _ hap2)
        rw [hpl] at CL
        have HAB2 := Lib.hid hab2
        have HB2 := Lib.hid hb2
        have HINV := Lib.hid hinv
        have HOP := Lib.hid hop
        have HPL := Lib.hid hpl
        have HMM : Hid (∃ m : Nat, sumA opA 0 (pairA (sumW W) S L H) ≤ (m : Int) ∧ runA (sumW W) m (pairA (sumW W) S L H) = makeA W) := by
          obtain ⟨m, hm1, hm2⟩ := HM.out.m
          have hp := opA_pos l2 l3
          cases m with
          | zero => omega
          | succ m =>
            refine ⟨m, by omega, ?_⟩
            rw [runA_go (by omega)] at hm2
            unfold stepA at hm2
            rw [l1, k1, Int.toNat_natCast, Int.toNat_natCast] at hm2
            exact hm2
        have HTB : Hid (tabOf wr w.heap.size = S ∧ 1 ≤ sumA opA 0 S) := ⟨tabOf_eq HM.out.ab, opA_pos l2 l3⟩
        have q1 : IntKind.i64.wrap (sumW W - lev S L) = sumW W - lev S L := IntWalk.i64_in _ (by omega)
        have q2 : IntKind.i64.wrap (lev S H - (sumW W - lev S L)) = lev S H - (sumW W - lev S L) := IntWalk.i64_in _ (by omega)
        rw [l1, k1]
        have iL : L < W.length := by omega
        have iH : H < W.length := by omega
        clear hlen l1 l3 k1 hinv hop hpl hab1 hz e1 e2 hab2 hb2 hap2 t3 l2 k2 HM hne
        generalize pairA (sumW W) S L H = S2 at *
        generalize lev S L = x at *
        generalize lev S H = y at *
        generalize hsw : sumW W = s at *
        have HSW := Lib.hid hsw
        clear hsw
        go_wp2_with fail
        generalize wr.setCell ⟨w.heap.size, L * 2 + 1, none⟩ (.int .i64 (H : Int)) = w5 at *
        go_still_tail 15, (by kernel_rfl)
        first
          | change wpList _ _ _ _ _ w5.drew
          | still_step
        go_wp2_with fail
        refine CL.out.mono ?_
        rintro e w6 ⟨rfl, hb6⟩
        have HAB6 := Lib.hid (HAB2.out.later hb6)
        have HB6 := Lib.hid (HB2.out.trans (hb6.mono HB2.out.size))
        have CH := Lib.hid (firstHigh_any (some ⟨w.heap.size, 0, none⟩) W.length S2 s w6 (by have := HAB6.out.ap (by rw [HPL.out]; omega); rw [HPL.out] at this; exact this))
        rw [HPL.out] at CH
        clear hb6 CL HAB2 HB2 cL cH cT fL fH
        go_wp2_with fail
        refine CH.out.mono ?_
        rintro e w7 ⟨rfl, hb7⟩
        have HAB7 := Lib.hid (HAB6.out.later hb7)
        have HB7 := Lib.hid (HB6.out.trans (hb7.mono HB6.out.size))
        clear hb7 CH HAB6 HB6
        go_wp2
        go_roundw
        case rel => exact ⟨S2, rfl, rfl, ⟨by rw [HSW.out]; exact HINV.out, by rw [HSW.out]; exact HMM.out, HAB7.out, HB7.out⟩⟩
        case measure =>
          rw [tabOf_eq HAB7.out, HTB.out.1]
          have h1 := HTB.out.2
          have h2 := HOP.out
          have h3 := (opA_le (S := S2)).1
          omega
  all_goals
    have E : Hid (makeC W = ([], (sumC W).2)) := by show _ = _; unfold makeC; rw [if_neg (by rw [h]; decide)]
    rw [h] at CS E
    clear h hW
    go_enter Try.func15, Try.ntmps15
    go_wp2_with fail
    refine CS.out.mono ?_
    rintro e w0 ⟨rfl, rfl⟩
    have HP := Lib.hid (apost_none (e := 2) (Below.refl w.heap.size w))
    have HP3 := Lib.hid (apost_none (e := 3) (Below.refl w.heap.size w))
    clear CS
    go_wp2
    go_ret2
    rw [E.out]
    first
      | exact HP.out
      | exact HP3.out
end Go.Proofs.Ytjhcbjpbmbjgoaa
