/- lotdrawerref.QWays. -/
import Derived.Test.YtojoecoocbjgaaaWk7
import Derived.Deep.QuietTactic
import Derived.BigQuiet
import Derived.WalkSmall
import Derived.Shelf.Abstract
import Derived.StillTailTactics
namespace Go.Proofs.Ytojoecoocbjgaaa
open Go.RowKit Go.Deep Go.Maps

theorem ways_wfi {may : Nat → Int → Bool} {a : Int} {n : Nat} (ha : -1000 ≤ a ∧ a ≤ 1000) (hn : n ≤ 56) (k : Int) (h : ¬ wfi k) : ways may a n k = 0 := by
  refine ways_far may a n k ?_
  apply Classical.byContradiction
  intro hc
  exact h (wfi_of (by omega))
theorem ways_next (may : Nat → Int → Bool) (a : Int) (n : Nat) (g : Int) : (if may (n + 1) g = true then ways may a n (g - 1) + ways may a n (g + 1) else 0) = ways may a (n + 1) g := rfl
theorem nxF_bd {may : Int → Bool} {left : Lit → Bool} {F : Int → Int} (h : ∀ k, 0 ≤ F k ∧ F k ≤ 72057594037927936) (g : Int) : 0 ≤ nxF may left F g ∧ nxF may left F g ≤ 144115188075855872 := by
  have hd : ∀ k, 0 ≤ dnF left F k ∧ dnF left F k ≤ 72057594037927936 := fun k => by
    unfold dnF
    have := h k
    split <;> omega
  have h1 := hd (g - 1)
  have h2 := hd (g + 1)
  unfold nxF
  split <;> omega
theorem stF_bd {may : Int → Bool} {N : Int → Int} {x c : Int} (h : ∀ k, 0 ≤ N k ∧ N k ≤ 144115188075855872) (hc : 0 ≤ c ∧ c ≤ 72057594037927936) (j : Nat) (g : Int) : 0 ≤ stF may N x c j g ∧ stF may N x c j g ≤ 216172782113783808 := by
  have := h g
  unfold stF
  split <;> omega

set_option maxRecDepth 100000 in
set_option maxHeartbeats 3000000 in
theorem qways_any (fid : Nat) (caps : Array Value) (may : Nat → Int → Bool) (n : Nat) (a : Int) (w : World) (hn : n ≤ 56) (ha : -1000 ≤ a ∧ a ≤ 1000)
    (hen : ∀ (args : Array Value) (w : World), (callFunc fid args).run Try.prog w = .ok (.enter fid args) w)
    (hf : ∀ (wx : World) (s : Nat) (h : Int), s ≤ n → Below w.heap.size w wx → Calls Try.prog fid (#[.int .i64 (s : Int), .int .i64 h] ++ caps) wx fun e w' => e = .returned (.bool (may s h)) ∧ w' = wx) :
    Calls Try.prog 18 #[.int .i64 (n : Int), .int .i64 a, .func (.func fid) #[] caps] w fun e w' => ∃ g m, e = .returned (.map (some g)) ∧ FnM w' g m (a - (n : Int)) (a + (n : Int)) (ways may a n) ∧ Below w.heap.size w w' := by
  have HF := Lib.hid hf
  have hmm := @run_makeMap Try.prog
  have HM0 : Hid (FnM (w.alloc (.map #[] 0)) w.heap.size 0 (a - ((0 : Nat) : Int)) (a + ((0 : Nat) : Int)) (fun _ => 0)) := FnM.made _ _ _
  have HB0 : Hid (Below w.heap.size w (w.alloc (.map #[] 0))) := (Below.refl _ _).alloc (Nat.le_refl _) _
  have C0 := Lib.hid (HF.out _ 0 a (by omega) HB0.out)
  rw [show ((0 : Nat) : Int) = 0 by rfl] at C0
  have haw : wfi a := wfi_of (by omega)
  clear hf
  cases hb0 : may 0 a with
  | true =>
    rw [hb0] at C0
    have HW0 : Hid (∀ x, wfi x → put1 (fun _ => 0) a 1 x = ways may a 0 x) := fun x _ => by
      unfold put1 ways
      by_cases e : x = a
      · rw [if_pos e, if_pos ⟨hb0, e⟩]
      · rw [if_neg e, if_neg (fun h => e h.2)]
    go_enter Try.func18, Try.ntmps18
    go_wp2_with (first
      | (go_at_fn fid; refine C0.out.mono ?_; rintro e w1 ⟨rfl, rfl⟩)
      | (at_mapUpdate; refine wpList_fnPut rfl _ _ _ rfl w.heap.size 0 _ _ _ a 1 rfl rfl rfl haw (wfi_of (by omega)) (by omega) HM0.out (by omega) ?_; intro w1 hM1 hg1; go_frame)
      | go_in)
    have HM1 : Hid (FnM w1 w.heap.size (2 ^ 0) (a - ((0 : Nat) : Int)) (a + ((0 : Nat) : Int)) (ways may a 0)) := hM1.congr HW0.out
    have HB1 : Hid (Below w.heap.size w w1) := HB0.out.grown hg1 HB0.out.size (fun j hj => by cases hj; exact Nat.le_refl _)
    clear hM1 hg1 HM0 HB0 C0 HW0 haw
    go_loopw [7, 8] (fun mv sv wr => ∃ b k : Nat, k ≤ n ∧ mv = .map (some b) ∧ sv = .int .i64 ((k : Int) + 1) ∧ FnM wr b (2 ^ k) (a - (k : Int)) (a + (k : Int)) (ways may a k) ∧ Below w.heap.size w wr) (fun _ sv _ => n + 1 - (intOf sv).toNat)
    case atStart => exact ⟨w.heap.size, 0, by omega, rfl, rfl, HM1.out, HB1.out⟩
    case round =>
      clear HM1 HB1
      obtain ⟨b, k, hk, rfl, rfl, hM, hB⟩ := hrel
      by_cases hlt : k < n
      · obtain ⟨wb, hwb⟩ : ∃ wb, wb = wr := ⟨_, rfl⟩
        subst hwb
        have t22 : decide ((k : Int) + 1 ≤ (n : Int)) = true := decide_eq_true (by omega)
        have hbl := hM.lt
        obtain ⟨D, hown, hC⟩ := hM
        have HB := Lib.hid hB
        have HCD := Lib.hid hC
        have HZ := Lib.hid (fun x h => ways_wfi (may := may) (n := k) ha (by omega) x h)
        have HFB := Lib.hid (fun x => ways_bd may a (n := k) x (by omega))
        have HNX := Lib.hid (ways_next may a k)
        have HSZ := Lib.hid hown.size_le
        have hN56 : 2 ^ k ≤ 72057594037927936 := by
          have : 2 ^ k ≤ 2 ^ 56 := Nat.pow_le_pow_right (by decide) (by omega)
          exact Nat.le_trans this (by decide)
        have hN2 : Hid (2 ^ (k + 1) = 2 * 2 ^ k) := by show _ = _; rw [Nat.pow_succ]; omega
        obtain ⟨N, hNN⟩ : ∃ N : Nat, N = 2 ^ k := ⟨_, rfl⟩
        rw [← hNN] at hown hN56 hN2 HSZ
        have hN2' := hN2.out
        have H2 : Hid (2 ^ (k + 1) = 2 * N) := hN2'
        have e1 : (wb.alloc (.map #[] 0)).heap.size = wb.heap.size + 1 := by simp
        have HMk : Hid (∀ F : Int → Int, (∀ x, wfi x → F x = 0) → FnM (wb.alloc (.map #[] 0)) wb.heap.size 0 (a - ((k + 1 : Nat) : Int)) (a + ((k + 1 : Nat) : Int)) F) := fun F hF => (FnM.made wb _ _).congr (fun x hx => (hF x hx).symm)
        have HBn : Hid (Below w.heap.size w (wb.alloc (.map #[] 0))) := hB.alloc hB.size _
        have hsz := hB.size
        obtain ⟨F, hFw⟩ : ∃ F, ways may a k = F := ⟨_, rfl⟩
        rw [hFw] at HCD HZ HFB hC
        have HNX : Hid (∀ g, (if may (k + 1) g = true then F (g - 1) + F (g + 1) else 0) = ways may a (k + 1) g) := by rw [← hFw]; exact HNX.out
        clear hB hC hNN hN2 hN2' hFw
        go_wp2_with (first
          | (at_range; refine wpList_range_own _ rfl _ 32 rfl 3 3 lawQ Try.underlying32 _ b N _ rfl (hown.alloc _) ?_; intro w0 hrg0 hg0 hs0)
          | go_in)
        go_frame
        rw [e1] at hrg0 hs0 ⊢
        go_loopw [10] (fun _ wr => ∃ (left : Lit → Bool) (cnt m : Nat), wr.ranges Try.prog 3 (plainElem Try.prog 3) b (wb.heap.size + 1) N D left cnt ∧ m + 2 * cnt ≤ 2 * N ∧ (∀ z, left z = true → has D z = true) ∧
            FnM wr wb.heap.size m (a - ((k + 1 : Nat) : Int)) (a + ((k + 1 : Nat) : Int)) (nxF (may (k + 1)) left F) ∧ Below w.heap.size w wr)
          (fun _ wr => wr.rangeLeft b (wb.heap.size + 1))
        case atStart =>
          exact ⟨_, _, 0, hrg0, by have := HSZ.out; omega, fun z h => h, (HMk.out _ (fun x _ => nxF_start HCD.out HZ.out _ x)).kept hg0 (by simp), HBn.out.grown hg0 HBn.out.size (fun j hj => by cases hj)⟩
        case round =>
          clear hrg0 hg0 hs0 HMk HBn
          obtain ⟨left, cnt, m, hrg, hmc, hlf, hMn, hBw⟩ := hrel
          have HLF := Lib.hid hlf
          have HMN := Lib.hid hMn
          have HBW := Lib.hid hBw
          have HRG := Lib.hid hrg
          clear hlf hMn hBw
          go_wp2_with (first
            | (at_next; refine wpList_next_ranges_ii _ rfl _ rfl 3 3 .i64 .i64 lawQ Try.underlying3 Try.underlying3 b (wb.heap.size + 1) N _ _ _ rfl hrg ?_ ?_)
            | go_in)
          · intro hc0 hl0
            have HME : Hid (FnM wr wb.heap.size (2 ^ (k + 1)) (a - ((k + 1 : Nat) : Int)) (a + ((k + 1 : Nat) : Int)) (ways may a (k + 1))) :=
              (HMN.out.mono (by rw [H2.out]; omega)).congr (fun x _ => by rw [nxF_end hl0]; exact HNX.out x)
            clear hrg HRG hown hc0 hl0
            go_wp2
            go_roundw
            case rel => exact ⟨wb.heap.size, k + 1, by omega, rfl, by go_num, HME.out, HBW.out⟩
            case measure => simp [intOf]; omega
          · intro x c w1 cnt1 hwx hwc hlx hat hrg1 hltc hg1 hs1 hentry
            have hkx := HCD.out.keys x (HLF.out _ hlx)
            have hFx : F x = c := by
              have h1 := hat (.lit (.int .i64 0))
              rw [HCD.out.look x hwx] at h1
              injection h1 with h1
              injection h1
            have hcb := HFB.out x
            rw [hFx] at hcb
            have HST := Lib.hid (fun g => nxF_step hwx hlx (may (k + 1)) F g)
            rw [hFx] at HST
            have HNB := Lib.hid (fun g => nxF_bd (may := may (k + 1)) (left := left) HFB.out g)
            obtain ⟨left2, hl2⟩ : ∃ l2 : Lit → Bool, l2 = fun z => left z && !z.sameKey (.int .i64 x) := ⟨_, rfl⟩
            rw [← hl2] at hrg1 HST
            have HL2 : Hid (∀ z, left2 z = true → has D z = true) := fun z hz => by
              rw [hl2] at hz
              exact HLF.out z (Bool.and_eq_true_iff.1 hz).1
            obtain ⟨G, hG⟩ : ∃ G, nxF (may (k + 1)) left F = G := ⟨_, rfl⟩
            have HST : Hid (∀ g, nxF (may (k + 1)) left2 F g = G g + (if may (k + 1) g = true ∧ (g = x - 1 ∨ g = x + 1) then c else 0)) := fun g => by rw [← hG]; exact HST.out g
            have HNB : Hid (∀ g, 0 ≤ G g ∧ G g ≤ 144115188075855872) := fun g => by rw [← hG]; exact HNB.out g
            have hMN1 : FnM w1 wb.heap.size m (a - ((k + 1 : Nat) : Int)) (a + ((k + 1 : Nat) : Int)) G := by
              rw [← hG]
              exact HMN.out.kept hg1 (by simp)
            have hBW1 : Below w.heap.size w w1 := HBW.out.grown hg1 HBW.out.size (fun j hj => by cases hj; omega)
            obtain ⟨w2, hw2⟩ : ∃ w2, w2 = w1.alloc (.cells #[.int .i64 (x - 1), .int .i64 (x + 1)] 3) := ⟨_, rfl⟩
            have HR2 : Hid (w2.ranges Try.prog 3 (plainElem Try.prog 3) b (wb.heap.size + 1) N D left2 cnt1) := by rw [hw2]; exact hrg1.alloc _
            have HM2 : Hid (FnM w2 wb.heap.size m (a - ((k + 1 : Nat) : Int)) (a + ((k + 1 : Nat) : Int)) G) := by rw [hw2]; exact hMN1.later ((Below.refl _ _).alloc (Nat.le_refl _) _)
            have HB2 : Hid (Below w.heap.size w w2) := by rw [hw2]; exact hBW1.alloc hBW1.size _
            have HS2 : Hid (Bs 3 w2 w1.heap.size [.int .i64 (x - 1), .int .i64 (x + 1)]) := by rw [hw2]; exact heap_alloc_new w1 _
            have hg1s : wb.heap.size < w1.heap.size := hMN1.lt
            have HRN : Hid (wb.heap.size + 1 < w1.heap.size) := hrg1.lt
            have HWX := Lib.hid hwx
            subst hw2
            clear hat hlx hl2 hG hMN1 hBW1 hFx HMN HBW HLF hown hrg hg1 hs1 hwc hwx
            go_wp2
            go_loopw [39] (fun iv wr => ∃ j : Nat, j ≤ 2 ∧ iv = .int .i64 j ∧ wr.ranges Try.prog 3 (plainElem Try.prog 3) b (wb.heap.size + 1) N D left2 cnt1 ∧
                FnM wr wb.heap.size (m + j) (a - ((k + 1 : Nat) : Int)) (a + ((k + 1 : Nat) : Int)) (stF (may (k + 1)) G x c j) ∧ Bs 3 wr w1.heap.size [.int .i64 (x - 1), .int .i64 (x + 1)] ∧ Below w.heap.size w wr) (fun iv _ => 2 - (intOf iv).toNat)
            case atStart => exact ⟨0, by omega, rfl, HR2.out, HM2.out.congr (fun g _ => (stF_zero _ _ _ _ g).symm), HS2.out, HB2.out⟩
            case round =>
              clear HR2 HM2 HS2 HB2
              obtain ⟨j, hj, rfl, hR, hM, hS, hB⟩ := hrel
              by_cases hjl : j < 2
              · have hcj : wr.cell? ⟨w1.heap.size, j, none⟩ = some (.int .i64 (nbr x j)) := by
                  rcases (show j = 0 ∨ j = 1 by omega) with rfl | rfl
                  · have := Bs.cell hS (j := 0) (by simp); simpa [nbr] using this
                  · have := Bs.cell hS (j := 1) (by simp); simpa [nbr] using this
                have hij : (j : Int) < 2 := by omega
                have hyb : a - ((k + 1 : Nat) : Int) ≤ nbr x j ∧ nbr x j ≤ a + ((k + 1 : Nat) : Int) := by
                  unfold nbr; split <;> omega
                have hyw : wfi (nbr x j) := wfi_of (by omega)
                have CF := Lib.hid (HF.out wr (k + 1) (nbr x j) (by omega) hB)
                rw [show ((k + 1 : Nat) : Int) = (k : Int) + 1 by rfl] at CF
                have hsb := stF_bd (may := may (k + 1)) (x := x) HNB.out hcb j (nbr x j)
                have HR := Lib.hid hR
                have HM := Lib.hid hM
                have HS := Lib.hid hS
                have HB := Lib.hid hB
                have HY := Lib.hid (stF_yes (may := may (k + 1)) (N := G) (x := x) (c := c) hjl)
                have HNo := Lib.hid (stF_no (may := may (k + 1)) (N := G) (x := x) (c := c) hjl)
                obtain ⟨bb, hbb⟩ : ∃ bb, may (k + 1) (nbr x j) = bb := ⟨_, rfl⟩
                rw [hbb] at CF HY HNo
                clear hR hM hS hB hbb
                obtain ⟨P, hP⟩ : ∃ P, stF (may (k + 1)) G x c j (nbr x j) = P := ⟨_, rfl⟩
                have HP := Lib.hid hP
                rw [hP] at hsb HY
                clear hP
                obtain ⟨y, hy⟩ : ∃ y, nbr x j = y := ⟨_, rfl⟩
                rw [hy] at hcj hyb hyw CF HY HP
                clear hy
                cases bb with
                | true =>
                  have HY1 := Lib.hid (HY.out rfl)
                  clear HNo HY
                  go_wp2_with (first
                    | (go_at_fn fid; refine CF.out.mono ?_; rintro e w3 ⟨rfl, rfl⟩)
                    | (at_lookup; refine wpList_fnLook rfl _ _ rfl wb.heap.size _ _ _ _ y rfl rfl hyw HM.out P HP.out ?_)
                    | (at_mapUpdate; refine wpList_fnPut rfl _ _ _ rfl wb.heap.size _ _ _ _ y (P + c) rfl rfl rfl hyw (wfi_of (by omega)) hyb HM.out (by omega) ?_; intro w4 hM4 hg4; go_frame)
                    | go_in)
                  have HR4 := Lib.hid (HR.out.kept hg4 (fun e => by have := Option.some.inj e; omega) (fun e => by have := Option.some.inj e; omega))
                  have HM4 : Hid (FnM w4 wb.heap.size (m + (j + 1)) (a - ((k + 1 : Nat) : Int)) (a + ((k + 1 : Nat) : Int)) (stF (may (k + 1)) G x c (j + 1))) := hM4.congr (fun g _ => (HY1.out g).symm)
                  have HS4 : Hid (Bs 3 w4 w1.heap.size [.int .i64 (x - 1), .int .i64 (x + 1)]) := (hg4.block _ (Bs.lt HS.out) (fun e => by have := Option.some.inj e; omega)).trans HS.out
                  have HB4 := Lib.hid (HB.out.grown hg4 HB.out.size (fun j hj => by cases hj; omega))
                  clear hM4 hg4
                  go_roundw
                  case rel => exact ⟨j + 1, by omega, by go_num, HR4.out, HM4.out, HS4.out, HB4.out⟩
                  case measure => simp [intOf]; omega
                | false =>
                  have HN1 := Lib.hid (HNo.out rfl)
                  clear HY HNo
                  go_wp2_with (first
                    | (go_at_fn fid; refine CF.out.mono ?_; rintro e w3 ⟨rfl, rfl⟩)
                    | go_in)
                  go_roundw
                  case rel => exact ⟨j + 1, by omega, by go_num, HR.out, (HM.out.mono (by omega)).congr (fun g _ => (HN1.out g).symm), HS.out, HB.out⟩
                  case measure => simp [intOf]; omega
              · obtain rfl : j = 2 := by omega
                have HR := Lib.hid hR
                have HM : Hid (FnM wr wb.heap.size (m + 2) (a - ((k + 1 : Nat) : Int)) (a + ((k + 1 : Nat) : Int)) (nxF (may (k + 1)) left2 F)) := hM.congr (fun g _ => by rw [stF_two, HST.out g])
                have HB := Lib.hid hB
                clear hR hM hS hB
                go_wp2
                go_roundw
                case rel =>
                  exact ⟨left2, cnt1, m + 2, HR.out, by omega, HL2.out, HM.out, HB.out⟩
                case measure => rw [HR.out.left_eq, HRG.out.left_eq]; exact hltc
      · obtain rfl : k = n := by omega
        have HM := Lib.hid hM
        have HB := Lib.hid hB
        clear hM hB
        go_wp2
        go_ret
        exact ⟨b, 2 ^ k, rfl, HM.out, HB.out⟩
  | false =>
    rw [hb0] at C0
    have HM1 : Hid (FnM (w.alloc (.map #[] 0)) w.heap.size (2 ^ 0) (a - ((0 : Nat) : Int)) (a + ((0 : Nat) : Int)) (ways may a 0)) := (HM0.out.mono (Nat.zero_le _)).congr (fun x _ => by
      unfold ways
      rw [if_neg (fun h => by rw [hb0] at h; cases h.1)])
    have HB1 := Lib.hid HB0.out
    clear HM0 HB0 haw
    go_enter Try.func18, Try.ntmps18
    go_wp2_with (first
      | (go_at_fn fid; refine C0.out.mono ?_; rintro e w1 ⟨rfl, rfl⟩)
      | go_in)
    clear C0
    go_loopw [7, 8] (fun mv sv wr => ∃ b k : Nat, k ≤ n ∧ mv = .map (some b) ∧ sv = .int .i64 ((k : Int) + 1) ∧ FnM wr b (2 ^ k) (a - (k : Int)) (a + (k : Int)) (ways may a k) ∧ Below w.heap.size w wr) (fun _ sv _ => n + 1 - (intOf sv).toNat)
    case atStart => exact ⟨w.heap.size, 0, by omega, rfl, rfl, HM1.out, HB1.out⟩
    case round =>
      clear HM1 HB1
      obtain ⟨b, k, hk, rfl, rfl, hM, hB⟩ := hrel
      by_cases hlt : k < n
      · obtain ⟨wb, hwb⟩ : ∃ wb, wb = wr := ⟨_, rfl⟩
        subst hwb
        have t22 : decide ((k : Int) + 1 ≤ (n : Int)) = true := decide_eq_true (by omega)
        have hbl := hM.lt
        obtain ⟨D, hown, hC⟩ := hM
        have HB := Lib.hid hB
        have HCD := Lib.hid hC
        have HZ := Lib.hid (fun x h => ways_wfi (may := may) (n := k) ha (by omega) x h)
        have HFB := Lib.hid (fun x => ways_bd may a (n := k) x (by omega))
        have HNX := Lib.hid (ways_next may a k)
        have HSZ := Lib.hid hown.size_le
        have hN56 : 2 ^ k ≤ 72057594037927936 := by
          have : 2 ^ k ≤ 2 ^ 56 := Nat.pow_le_pow_right (by decide) (by omega)
          exact Nat.le_trans this (by decide)
        have hN2 : Hid (2 ^ (k + 1) = 2 * 2 ^ k) := by show _ = _; rw [Nat.pow_succ]; omega
        obtain ⟨N, hNN⟩ : ∃ N : Nat, N = 2 ^ k := ⟨_, rfl⟩
        rw [← hNN] at hown hN56 hN2 HSZ
        have hN2' := hN2.out
        have H2 : Hid (2 ^ (k + 1) = 2 * N) := hN2'
        have e1 : (wb.alloc (.map #[] 0)).heap.size = wb.heap.size + 1 := by simp
        have HMk : Hid (∀ F : Int → Int, (∀ x, wfi x → F x = 0) → FnM (wb.alloc (.map #[] 0)) wb.heap.size 0 (a - ((k + 1 : Nat) : Int)) (a + ((k + 1 : Nat) : Int)) F) := fun F hF => (FnM.made wb _ _).congr (fun x hx => (hF x hx).symm)
        have HBn : Hid (Below w.heap.size w (wb.alloc (.map #[] 0))) := hB.alloc hB.size _
        have hsz := hB.size
        obtain ⟨F, hFw⟩ : ∃ F, ways may a k = F := ⟨_, rfl⟩
        rw [hFw] at HCD HZ HFB hC
        have HNX : Hid (∀ g, (if may (k + 1) g = true then F (g - 1) + F (g + 1) else 0) = ways may a (k + 1) g) := by rw [← hFw]; exact HNX.out
        clear hB hC hNN hN2 hN2' hFw
        go_wp2_with (first
          | (at_range; refine wpList_range_own _ rfl _ 32 rfl 3 3 lawQ Try.underlying32 _ b N _ rfl (hown.alloc _) ?_; intro w0 hrg0 hg0 hs0)
          | go_in)
        go_frame
        rw [e1] at hrg0 hs0 ⊢
        go_loopw [10] (fun _ wr => ∃ (left : Lit → Bool) (cnt m : Nat), wr.ranges Try.prog 3 (plainElem Try.prog 3) b (wb.heap.size + 1) N D left cnt ∧ m + 2 * cnt ≤ 2 * N ∧ (∀ z, left z = true → has D z = true) ∧
            FnM wr wb.heap.size m (a - ((k + 1 : Nat) : Int)) (a + ((k + 1 : Nat) : Int)) (nxF (may (k + 1)) left F) ∧ Below w.heap.size w wr)
          (fun _ wr => wr.rangeLeft b (wb.heap.size + 1))
        case atStart =>
          exact ⟨_, _, 0, hrg0, by have := HSZ.out; omega, fun z h => h, (HMk.out _ (fun x _ => nxF_start HCD.out HZ.out _ x)).kept hg0 (by simp), HBn.out.grown hg0 HBn.out.size (fun j hj => by cases hj)⟩
        case round =>
          clear hrg0 hg0 hs0 HMk HBn
          obtain ⟨left, cnt, m, hrg, hmc, hlf, hMn, hBw⟩ := hrel
          have HLF := Lib.hid hlf
          have HMN := Lib.hid hMn
          have HBW := Lib.hid hBw
          have HRG := Lib.hid hrg
          clear hlf hMn hBw
          go_wp2_with (first
            | (at_next; refine wpList_next_ranges_ii _ rfl _ rfl 3 3 .i64 .i64 lawQ Try.underlying3 Try.underlying3 b (wb.heap.size + 1) N _ _ _ rfl hrg ?_ ?_)
            | go_in)
          · intro hc0 hl0
            have HME : Hid (FnM wr wb.heap.size (2 ^ (k + 1)) (a - ((k + 1 : Nat) : Int)) (a + ((k + 1 : Nat) : Int)) (ways may a (k + 1))) :=
              (HMN.out.mono (by rw [H2.out]; omega)).congr (fun x _ => by rw [nxF_end hl0]; exact HNX.out x)
            clear hrg HRG hown hc0 hl0
            go_wp2
            go_roundw
            case rel => exact ⟨wb.heap.size, k + 1, by omega, rfl, by go_num, HME.out, HBW.out⟩
            case measure => simp [intOf]; omega
          · intro x c w1 cnt1 hwx hwc hlx hat hrg1 hltc hg1 hs1 hentry
            have hkx := HCD.out.keys x (HLF.out _ hlx)
            have hFx : F x = c := by
              have h1 := hat (.lit (.int .i64 0))
              rw [HCD.out.look x hwx] at h1
              injection h1 with h1
              injection h1
            have hcb := HFB.out x
            rw [hFx] at hcb
            have HST := Lib.hid (fun g => nxF_step hwx hlx (may (k + 1)) F g)
            rw [hFx] at HST
            have HNB := Lib.hid (fun g => nxF_bd (may := may (k + 1)) (left := left) HFB.out g)
            obtain ⟨left2, hl2⟩ : ∃ l2 : Lit → Bool, l2 = fun z => left z && !z.sameKey (.int .i64 x) := ⟨_, rfl⟩
            rw [← hl2] at hrg1 HST
            have HL2 : Hid (∀ z, left2 z = true → has D z = true) := fun z hz => by
              rw [hl2] at hz
              exact HLF.out z (Bool.and_eq_true_iff.1 hz).1
            obtain ⟨G, hG⟩ : ∃ G, nxF (may (k + 1)) left F = G := ⟨_, rfl⟩
            have HST : Hid (∀ g, nxF (may (k + 1)) left2 F g = G g + (if may (k + 1) g = true ∧ (g = x - 1 ∨ g = x + 1) then c else 0)) := fun g => by rw [← hG]; exact HST.out g
            have HNB : Hid (∀ g, 0 ≤ G g ∧ G g ≤ 144115188075855872) := fun g => by rw [← hG]; exact HNB.out g
            have hMN1 : FnM w1 wb.heap.size m (a - ((k + 1 : Nat) : Int)) (a + ((k + 1 : Nat) : Int)) G := by
              rw [← hG]
              exact HMN.out.kept hg1 (by simp)
            have hBW1 : Below w.heap.size w w1 := HBW.out.grown hg1 HBW.out.size (fun j hj => by cases hj; omega)
            obtain ⟨w2, hw2⟩ : ∃ w2, w2 = w1.alloc (.cells #[.int .i64 (x - 1), .int .i64 (x + 1)] 3) := ⟨_, rfl⟩
            have HR2 : Hid (w2.ranges Try.prog 3 (plainElem Try.prog 3) b (wb.heap.size + 1) N D left2 cnt1) := by rw [hw2]; exact hrg1.alloc _
            have HM2 : Hid (FnM w2 wb.heap.size m (a - ((k + 1 : Nat) : Int)) (a + ((k + 1 : Nat) : Int)) G) := by rw [hw2]; exact hMN1.later ((Below.refl _ _).alloc (Nat.le_refl _) _)
            have HB2 : Hid (Below w.heap.size w w2) := by rw [hw2]; exact hBW1.alloc hBW1.size _
            have HS2 : Hid (Bs 3 w2 w1.heap.size [.int .i64 (x - 1), .int .i64 (x + 1)]) := by rw [hw2]; exact heap_alloc_new w1 _
            have hg1s : wb.heap.size < w1.heap.size := hMN1.lt
            have HRN : Hid (wb.heap.size + 1 < w1.heap.size) := hrg1.lt
            have HWX := Lib.hid hwx
            subst hw2
            clear hat hlx hl2 hG hMN1 hBW1 hFx HMN HBW HLF hown hrg hg1 hs1 hwc hwx
            go_wp2
            go_loopw [39] (fun iv wr => ∃ j : Nat, j ≤ 2 ∧ iv = .int .i64 j ∧ wr.ranges Try.prog 3 (plainElem Try.prog 3) b (wb.heap.size + 1) N D left2 cnt1 ∧
                FnM wr wb.heap.size (m + j) (a - ((k + 1 : Nat) : Int)) (a + ((k + 1 : Nat) : Int)) (stF (may (k + 1)) G x c j) ∧ Bs 3 wr w1.heap.size [.int .i64 (x - 1), .int .i64 (x + 1)] ∧ Below w.heap.size w wr) (fun iv _ => 2 - (intOf iv).toNat)
            case atStart => exact ⟨0, by omega, rfl, HR2.out, HM2.out.congr (fun g _ => (stF_zero _ _ _ _ g).symm), HS2.out, HB2.out⟩
            case round =>
              clear HR2 HM2 HS2 HB2
              obtain ⟨j, hj, rfl, hR, hM, hS, hB⟩ := hrel
              by_cases hjl : j < 2
              · have hcj : wr.cell? ⟨w1.heap.size, j, none⟩ = some (.int .i64 (nbr x j)) := by
                  rcases (show j = 0 ∨ j = 1 by omega) with rfl | rfl
                  · have := Bs.cell hS (j := 0) (by simp); simpa [nbr] using this
                  · have := Bs.cell hS (j := 1) (by simp); simpa [nbr] using this
                have hij : (j : Int) < 2 := by omega
                have hyb : a - ((k + 1 : Nat) : Int) ≤ nbr x j ∧ nbr x j ≤ a + ((k + 1 : Nat) : Int) := by
                  unfold nbr; split <;> omega
                have hyw : wfi (nbr x j) := wfi_of (by omega)
                have CF := Lib.hid (HF.out wr (k + 1) (nbr x j) (by omega) hB)
                rw [show ((k + 1 : Nat) : Int) = (k : Int) + 1 by rfl] at CF
                have hsb := stF_bd (may := may (k + 1)) (x := x) HNB.out hcb j (nbr x j)
                have HR := Lib.hid hR
                have HM := Lib.hid hM
                have HS := Lib.hid hS
                have HB := Lib.hid hB
                have HY := Lib.hid (stF_yes (may := may (k + 1)) (N := G) (x := x) (c := c) hjl)
                have HNo := Lib.hid (stF_no (may := may (k + 1)) (N := G) (x := x) (c := c) hjl)
                obtain ⟨bb, hbb⟩ : ∃ bb, may (k + 1) (nbr x j) = bb := ⟨_, rfl⟩
                rw [hbb] at CF HY HNo
                clear hR hM hS hB hbb
                obtain ⟨P, hP⟩ : ∃ P, stF (may (k + 1)) G x c j (nbr x j) = P := ⟨_, rfl⟩
                have HP := Lib.hid hP
                rw [hP] at hsb HY
                clear hP
                obtain ⟨y, hy⟩ : ∃ y, nbr x j = y := ⟨_, rfl⟩
                rw [hy] at hcj hyb hyw CF HY HP
                clear hy
                cases bb with
                | true =>
                  have HY1 := Lib.hid (HY.out rfl)
                  clear HNo HY
                  go_wp2_with (first
                    | (go_at_fn fid; refine CF.out.mono ?_; rintro e w3 ⟨rfl, rfl⟩)
                    | (at_lookup; refine wpList_fnLook rfl _ _ rfl wb.heap.size _ _ _ _ y rfl rfl hyw HM.out P HP.out ?_)
                    | (at_mapUpdate; refine wpList_fnPut rfl _ _ _ rfl wb.heap.size _ _ _ _ y (P + c) rfl rfl rfl hyw (wfi_of (by omega)) hyb HM.out (by omega) ?_; intro w4 hM4 hg4; go_frame)
                    | go_in)
                  have HR4 := Lib.hid (HR.out.kept hg4 (fun e => by have := Option.some.inj e; omega) (fun e => by have := Option.some.inj e; omega))
                  have HM4 : Hid (FnM w4 wb.heap.size (m + (j + 1)) (a - ((k + 1 : Nat) : Int)) (a + ((k + 1 : Nat) : Int)) (stF (may (k + 1)) G x c (j + 1))) := hM4.congr (fun g _ => (HY1.out g).symm)
                  have HS4 : Hid (Bs 3 w4 w1.heap.size [.int .i64 (x - 1), .int .i64 (x + 1)]) := (hg4.block _ (Bs.lt HS.out) (fun e => by have := Option.some.inj e; omega)).trans HS.out
                  have HB4 := Lib.hid (HB.out.grown hg4 HB.out.size (fun j hj => by cases hj; omega))
                  clear hM4 hg4
                  go_roundw
                  case rel => exact ⟨j + 1, by omega, by go_num, HR4.out, HM4.out, HS4.out, HB4.out⟩
                  case measure => simp [intOf]; omega
                | false =>
                  have HN1 := Lib.hid (HNo.out rfl)
                  clear HY HNo
                  go_wp2_with (first
                    | (go_at_fn fid; refine CF.out.mono ?_; rintro e w3 ⟨rfl, rfl⟩)
                    | go_in)
                  go_roundw
                  case rel => exact ⟨j + 1, by omega, by go_num, HR.out, (HM.out.mono (by omega)).congr (fun g _ => (HN1.out g).symm), HS.out, HB.out⟩
                  case measure => simp [intOf]; omega
              · obtain rfl : j = 2 := by omega
                have HR := Lib.hid hR
                have HM : Hid (FnM wr wb.heap.size (m + 2) (a - ((k + 1 : Nat) : Int)) (a + ((k + 1 : Nat) : Int)) (nxF (may (k + 1)) left2 F)) := hM.congr (fun g _ => by rw [stF_two, HST.out g])
                have HB := Lib.hid hB
                clear hR hM hS hB
                go_wp2
                go_roundw
                case rel =>
                  exact ⟨left2, cnt1, m + 2, HR.out, by omega, HL2.out, HM.out, HB.out⟩
                case measure => rw [HR.out.left_eq, HRG.out.left_eq]; exact hltc
      · obtain rfl : k = n := by omega
        have HM := Lib.hid hM
        have HB := Lib.hid hB
        clear hM hB
        go_wp2
        go_ret
        exact ⟨b, 2 ^ k, rfl, HM.out, HB.out⟩
end Go.Proofs.Ytojoecoocbjgaaa
