/- drop.Level where there are more than are kept. -/
import Derived.Test.YtkcgcojhgcfgmaaL3
namespace Go.Proofs.Ytkcgcojhgcfgmaa
open Go.RowKit Go.Deep Go.Shelf

attribute [local go_sem] Oper.semAt_some

theorem FB.other {w : World} {g : Nat} {a b : Int} (h : FB w g a b) {c : Addr} (hc : c.block ≠ g) (v : Value) : FB (w.setCell c v) g a b := (heap_setCell_other w c g v (fun e => hc e.symm)).trans h
theorem boxed_otherL {w : World} {g t : Nat} {u : Value} (h : Boxed w g t u) {c : Addr} (hc : c.block ≠ g) (v : Value) : Boxed (w.setCell c v) g t u := (heap_setCell_other w c g v (fun e => hc e.symm)).trans h

theorem boxed_ownL {B t : Nat} {v : Value} : Own (fun (_ : List Nat) W => Boxed W B t v) := fun s A B row hs hg hr => by
  refine hs.kept hg (fun e => ?_)
  obtain ⟨o, ho, hc⟩ := hr _ e.symm
  have : A.heap[_]? = _ := hs
  rw [this] at ho
  cases ho
  cases hc
theorem fb_ownL {g : Nat} {a b : Int} : Own (fun (_ : List Nat) W => FB W g a b) := fun s A B row hs hg hr => by
  refine (hg.block g (Bs.lt hs) (fun e => ?_)).trans hs
  obtain ⟨o, ho, hc⟩ := hr g e.symm
  have : A.heap[g]? = _ := hs
  rw [this] at ho
  cases ho
  cases hc
/-- Two counters in their boxes. -/
theorem lrel_own {S E : Nat} (G : List Nat → Int → Int → Prop) : Own (fun pre W => ∃ a b, Boxed W S 3 (.int .i64 a) ∧ Boxed W E 3 (.int .i64 b) ∧ G pre a b) := by
  rintro s X Y row ⟨a, b, h1, h2, hG⟩ hg hr
  exact ⟨a, b, boxed_ownL s X Y row h1 hg hr, boxed_ownL s X Y row h2 hg hr, hG⟩
/-- What a round keeps: the list's box and its row. -/
def KL (B g : Nat) (X Y : World) : Prop := Y.heap[B]? = X.heap[B]? ∧ Y.heap[g]? = X.heap[g]?
theorem KL.boxl {B g cr : Nat} {ds : List Int} {X Y : World} (h : KL B g X Y) (hb : BoxL X B (some ⟨g, 0, none⟩) cr ds) : BoxL Y B (some ⟨g, 0, none⟩) cr ds := by
  refine ⟨h.1.trans hb.1, fun h0 => ?_⟩
  obtain ⟨b, off, e, hlt, hc⟩ := hb.2 h0
  cases e
  have hs : g < Y.heap.size := by
    obtain ⟨o, ho⟩ : ∃ o, X.heap[g]? = some o := ⟨_, Array.getElem?_eq_getElem hlt⟩
    exact lt_of_block (h.2.trans ho)
  refine ⟨g, 0, rfl, hs, fun j hj => ?_⟩
  rw [← hc j hj]
  simp only [World.cell?, h.2]

/-- The level is laid, and the loop's own block is done with. -/
theorem lv_fin {w W : World} {a0 b0 : Int} {D : Nat} (hF : FB W w.heap.size a0 b0) (hB : Below w.heap.size w W) (hK : W.heap[D]? = some (.deferred (some []))) (hD : w.heap.size < D) (a b : Int) :
    ((W.setCell ⟨w.heap.size, 0, none⟩ (.int .i64 a)).setCell ⟨w.heap.size, 1, none⟩ (.int .i64 b)).heap[D]? = some (.deferred (some [])) ∧ FB (((W.setCell ⟨w.heap.size, 0, none⟩ (.int .i64 a)).setCell ⟨w.heap.size, 1, none⟩ (.int .i64 b)).putObj D (.deferred none)) w.heap.size a b ∧ Below w.heap.size w (((W.setCell ⟨w.heap.size, 0, none⟩ (.int .i64 a)).setCell ⟨w.heap.size, 1, none⟩ (.int .i64 b)).putObj D (.deferred none)) := by
  have h1 : ((W.setCell ⟨w.heap.size, 0, none⟩ (.int .i64 a)).setCell ⟨w.heap.size, 1, none⟩ (.int .i64 b)).heap[D]? = some (.deferred (some [])) := by
    rw [heap_setCell_other _ ⟨w.heap.size, 1, none⟩ _ _ (by show D ≠ w.heap.size; omega), heap_setCell_other _ ⟨w.heap.size, 0, none⟩ _ _ (by show D ≠ w.heap.size; omega)]
    exact hK
  refine ⟨h1, (World.putObj_heap_other (by omega)).trans (hF.store a b), ?_⟩
  have h2 := (hB.setCell (p := ⟨w.heap.size, 0, none⟩) (Nat.le_refl _) (.int .i64 a)).setCell (p := ⟨w.heap.size, 1, none⟩) (Nat.le_refl _) (.int .i64 b)
  exact h2.trans (belowK_b (w := w) (Nat.le_refl _) _ D _ _ (by omega) h1 rfl rfl)

set_option maxRecDepth 100000 in
set_option maxHeartbeats 4000000 in
theorem level_good (A : Option Addr) (ca : Nat) (W : List Int) (m : Int) (w : World) (hW : IP w A ca W) (hD : WD W m) (hl : m < W.length) :
    Calls Try.prog 9 #[.slice A W.length ca, .int .i64 m] w fun e w' => e = .returned (lvtup (levC W m)) ∧ Below w.heap.size w w' := by
  have hle := hW.le
  have hcap := hW.cap
  have h4 := hD.1
  have hm1 := hD.2.1
  have hm4 := hD.2.2.1
  have HD := Lib.hid hD
  have hB0 : Below w.heap.size w (w.alloc (.cells #[.int .i64 0, .int .i64 0] 24)) := (Below.refl _ _).alloc (Nat.le_refl _) _
  have CW := Lib.hid (dwrong_any A ca W m _ (hW.later hB0))
  rw [wdE_ok hD] at CW
  have HB0 := Lib.hid hB0
  have HW := Lib.hid hW
  have HF := Lib.hid (fb_new w 0 0)
  rw [levC_ok hD, levF_more (by omega)]
  have t1 : decide ((W.length : Int) ≤ m) = false := decide_eq_false (by omega)
  clear hB0 hW hD
  obtain ⟨r, hr⟩ : ∃ r, lv (dsc W) (sumW W) m = r := ⟨_, rfl⟩
  rw [hr]
  have HR := Lib.hid hr
  clear hr
  refine (callsIn_wide (n := 8)).1 ?_
  refine callsIn_of_wp_marks Try.func9 rfl trivial ?_ rfl
  simp only [Try.ntmps9, List.size_toArray, List.length_cons, List.length_nil, Nat.reduceAdd, Nat.reduceSub, Array.replicate_succ, Array.replicate_zero, List.push_toArray, List.append_toArray, List.nil_append, List.cons_append]
  gi_wp2_with (refine ⟨trivial, ?_⟩; gi_at_call 13; refine (callsIn_wide.2 CW.out).mono ?_; rintro e w1 ⟨rfl, rfl⟩)
  have HS0 : Hid (Boxed ((w.alloc (.cells #[.int .i64 0, .int .i64 0] 24)).alloc (.cells #[.int .i64 0] 3)) (w.heap.size + 1) 3 (.int .i64 0)) := by
    have := Boxed.new (w.alloc (.cells #[.int .i64 0, .int .i64 0] 24)) 3 (.int .i64 0)
    rw [World.size_alloc] at this
    exact this
  have hb1 : Below (w.alloc (.cells #[.int .i64 0, .int .i64 0] 24)).heap.size (w.alloc (.cells #[.int .i64 0, .int .i64 0] 24)) ((w.alloc (.cells #[.int .i64 0, .int .i64 0] 24)).alloc (.cells #[.int .i64 0] 3)) := (Below.refl _ _).alloc (Nat.le_refl _) _
  have HF1 : Hid (FB ((w.alloc (.cells #[.int .i64 0, .int .i64 0] 24)).alloc (.cells #[.int .i64 0] 3)) w.heap.size 0 0) := HF.out.below hb1 (by simp)
  have HB1 : Hid (Below w.heap.size w ((w.alloc (.cells #[.int .i64 0, .int .i64 0] 24)).alloc (.cells #[.int .i64 0] 3))) := HB0.out.trans (hb1.mono HB0.out.size)
  clear hb1 HF HB0 CW
  gi_loopw [28] (fun iv wr => ∃ k : Nat, k ≤ W.length ∧ iv = .int .i64 k ∧ Boxed wr (w.heap.size + 1) 3 (.int .i64 (pre W k)) ∧ FB wr w.heap.size 0 0 ∧ Below w.heap.size w wr) (fun iv _ => W.length - (intOf iv).toNat)
  case atStart => exact ⟨0, by omega, rfl, HS0.out, HF1.out, HB1.out⟩
  case round =>
    clear HS0 HF1 HB1
    obtain ⟨k, hk, rfl, hS, hF, hB⟩ := hrel
    have HS := Lib.hid hS
    have HF := Lib.hid hF
    have HB := Lib.hid hB
    have hcs := hS.cell
    have hfs := hS.frozen
    clear hS hF hB
    by_cases hlt : k < W.length
    · obtain ⟨b, off, rfl, _, hcell⟩ := (HW.out.later HB.out).il.at (by omega)
      have hci := hcell k hlt
      have hx := HD.out.at hlt
      have hp : 0 ≤ pre W k ∧ pre W k ≤ 419430400 := by
        have hd : ∀ x ∈ W.take k, 1 ≤ x ∧ x ≤ 1048576 := fun x hx => HD.out.2.2.2 x (List.mem_of_mem_take hx)
        have := sumD_bound hd
        rw [List.length_take] at this
        unfold pre
        omega
      have HE := Lib.hid (pre_succ hlt)
      have HS2 := Lib.hid (HS.out.set (.int .i64 (pre W k + W.getD k 0)))
      have HF2 := Lib.hid (HF.out.other (c := ⟨w.heap.size + 1, 0, none⟩) (by simp) (.int .i64 (pre W k + W.getD k 0)))
      have HB2 := Lib.hid (HB.out.setCell (p := ⟨w.heap.size + 1, 0, none⟩) (by simp) (.int .i64 (pre W k + W.getD k 0)))
      clear hcell
      generalize pre W k = p at *
      generalize W.getD k 0 = x at *
      gi_wp2
      go_roundw
      case rel => exact ⟨k + 1, by omega, by go_num, by rw [HE.out]; exact HS2.out, HF2.out, HB2.out⟩
      case measure => simp [intOf]; omega
    · obtain rfl : k = W.length := by omega
      have HP : Hid (pre W W.length = sumW W) := pre_all W
      rw [HP.out] at HS hcs
      obtain ⟨wI, hwI⟩ : ∃ wI, wI = wr := ⟨_, rfl⟩
      subst hwI
      have hbv : Below wI.heap.size wI (wI.alloc (.cells #[.slice A W.length ca] 22)) := (Below.refl _ _).alloc (Nat.le_refl _) _
      have CS := Lib.hid (sorted_any wI.heap.size A ca W (by omega) (wI.alloc (.cells #[.slice A W.length ca] 22)) (Boxed.new _ _ _) ((HW.out.later HB.out).later hbv).il)
      have hbs : ∀ x, Below wI.heap.size wI x → FB x w.heap.size 0 0 ∧ Boxed x (w.heap.size + 1) 3 (.int .i64 (sumW W)) ∧ Below w.heap.size w x := fun x hx => ⟨HF.out.below hx HF.out.lt, (hx.block _ HS.out.lt).trans HS.out, HB.out.trans (hx.mono HB.out.size)⟩
      have HBS := Lib.hid hbs
      have HBV := Lib.hid hbv
      have HL := Lib.hid HS.out.lt
      obtain ⟨ds, hds⟩ : ∃ ds, (W.mergeSort fun x y => decide (x ≤ y)) = ds := ⟨_, rfl⟩
      have hdl : ds.length = W.length := by rw [← hds]; exact List.length_mergeSort _
      have HDL := Lib.hid hdl
      have HRD : Hid (lv ds.reverse (sumW W) m = r) := by rw [← hds]; exact HR.out
      have HDE : Hid (∀ x, 1 ≤ ds.getD (cl ds.length x) 0 ∧ ds.getD (cl ds.length x) 0 ≤ 1048576) := fun x => by
        have hk : cl ds.length x < ds.length := cl_in (by omega)
        exact HD.out.2.2.2 _ ((List.mergeSort_perm W _).mem_iff.1 (by rw [hds]; exact memV hk))
      rw [hds] at CS
      have hsum := HD.out.sum
      have hd1 : 1 ≤ ds.length := by omega
      clear hbs hcs hfs HP HF HB HS hds hdl hbv HR
      gi_wp2_with (first | (refine ⟨trivial, ?_⟩; gi_at_call 20; refine (values_in Fence.wide _ trivial rfl _ _ _ _).mono ?_; rintro e w3 ⟨rfl, rfl⟩) | (refine ⟨trivial, ?_⟩; gi_at_call 19; refine (callsIn_wide.2 CS.out).mono ?_; rintro e w3 ⟨v, rfl, hO, hb3⟩; obtain ⟨g, cr, rfl, hg1, hg2, hg3, hg4, hg5, hg6, hO2⟩ := hO.form rfl hd1) | (refine ⟨trivial, ?_⟩; gi_at_call 21; refine (backK_in Fence.wide _ trivial rfl _ _ _ _).mono ?_; rintro e w4 ⟨rfl, rfl⟩))
      obtain ⟨W0, hW0⟩ : ∃ W0, (w3.alloc (Obj.cells #[Value.int .i64 m] 3)).alloc (Obj.cells #[Value.slice (some ⟨g, 0, none⟩) ds.length cr] 22) = W0 := ⟨_, rfl⟩
      have hsz : W0.heap.size = w3.heap.size + 1 + 1 := by rw [← hW0]; simp
      have hE : Boxed W0 w3.heap.size 3 (.int .i64 m) := by rw [← hW0]; exact (Boxed.new w3 _ _).alloc _
      have hal : Below w3.heap.size w3 W0 := by rw [← hW0]; exact ((Below.refl _ w3).alloc (Nat.le_refl _) _).alloc (by simp) _
      have hBx : BoxL W0 (w3.heap.size + 1) (some ⟨g, 0, none⟩) cr ds := by
        refine ⟨?_, (hO2.ipv rfl).il.later hal⟩
        have := Boxed.new (w3.alloc (Obj.cells #[Value.int .i64 m] 3)) 22 (.slice (some ⟨g, 0, none⟩) ds.length cr)
        rw [← hW0]; rwa [World.size_alloc] at this
      have hsv : (wI.alloc (Obj.cells #[Value.slice A W.length ca] 22)).heap.size = wI.heap.size + 1 := by simp
      rw [hsv] at hg1
      have hb30 : Below wI.heap.size wI W0 := HBV.out.trans ((hb3.mono (by rw [hsv]; omega)).trans (hal.mono (by have := hb3.size; rw [hsv] at this; omega)))
      obtain ⟨hF0, hS0, hB0⟩ := HBS.out W0 hb30
      have hLL := HL.out
      rw [hW0]
      refine wpIn_rangeFunc_ownG rfl (by omega) (gf := 26) (lb := #[.pointer (some ⟨w3.heap.size + 1, 0, none⟩)]) rfl trivial (enters_of Try.func26 (by kernel_rfl) rfl)
        (encs := encK ds) (Kp := KL (w3.heap.size + 1) g) (S := fun ys => ys = downTo ds.length ds.length) (Sp := fun pre => ∃ m, m ≤ ds.length ∧ pre = downTo ds.length m) (N := ds.length) (w0 := W0)
        (fun l J Jx W' hW _ _ hY h0 => backK1_in Fence.wide _ trivial rfl (by omega) l (w3.heap.size + 1) (KL (w3.heap.size + 1) g) (some ⟨g, 0, none⟩) cr ds (by rw [HDL.out]; omega) J Jx (fun X Y hk hb => hk.boxl hb) hY W' (KL.boxl ⟨hW.block _ (by omega), hW.block _ (by omega)⟩ hBx) h0)
        (fun h k => ⟨k.1.trans h.1, k.2.trans h.2⟩) (fun W' l o o' hl h h1 h2 => ⟨World.putObj_heap_other (by omega), World.putObj_heap_other (by omega)⟩) (Below.refl _ _) (fun _ => rfl)
        (fun pre W' => (∃ a b, Boxed W' (w.heap.size + 1) 3 (.int .i64 a) ∧ Boxed W' w3.heap.size 3 (.int .i64 b) ∧ LvG ds (sumW W) m pre a b) ∧ (FB W' w.heap.size 0 0 ∧ Below w.heap.size w W'))
        (fun c pre W' => (∃ a b, Boxed W' (w.heap.size + 1) 3 (.int .i64 a) ∧ Boxed W' w3.heap.size 3 (.int .i64 b) ∧ (c = .exit 2 ∧ LvX ds (sumW W) m pre a b)) ∧ (FB W' w.heap.size 0 0 ∧ Below w.heap.size w W'))
        (OwnFrom.and (Own.from (lrel_own _) _) (OwnFrom.and (Own.from fb_ownL _) (ownFrom_below (Nat.le_refl _) (by omega))))
        (fun c => OwnFrom.and (Own.from (lrel_own _) _) (OwnFrom.and (Own.from fb_ownL _) (ownFrom_below (Nat.le_refl _) (by omega))))
        ⟨⟨_, _, hS0, hE, LvG.nil hm1 hm4 (by omega) (by omega)⟩, hF0, hB0⟩
        (fun x => { tmps := #[Value.slice A W.length ca, Value.int .i64 m, undef, undef, Value.pointer (some ⟨w.heap.size, 0, none⟩), Value.int .i64 0, Value.int .i64 0, Value.pointer (some ⟨w.heap.size + 1, 0, none⟩), undef, u9,
          Value.slice (some ⟨g, 0, none⟩) ds.length cr, Value.pointer (some ⟨w3.heap.size, 0, none⟩), undef, .int .i64 (ds.getD (cl ds.length x) 0), Value.slice A W.length ca, Value.int .i64 m, Value.int .i64 0, Value.int .i64 0, Value.bool false, undef, undef,
          Value.slice A W.length ca, Value.int .i64 W.length, Value.int .i64 m, Value.bool false, undef, Value.slice A W.length ca, Value.int .i64 W.length, Value.int .i64 W.length, Value.bool false, u30, u31, u32, u33, u34, u35, Value.slice A W.length ca,
          Value.func (Fn.func 25) #[] #[Value.pointer (some ⟨wI.heap.size, 0, none⟩)], Value.slice (some ⟨g, 0, none⟩) ds.length cr, Value.int .i64 m, Value.slice (some ⟨g, 0, none⟩) ds.length cr,
          Value.func (Fn.func 26) #[] #[Value.pointer (some ⟨w3.heap.size + 1, 0, none⟩)], .int .i64 ((cl ds.length x : Nat) : Int), .int .i64 (ds.getD (cl ds.length x) 0),
          undef, undef, undef, undef, undef, undef, undef, undef, undef, undef, undef, undef, undef, undef, undef, undef, undef], defers := [] }) ?assign ?body ?done ?stop
      case assign =>
        intro l x W K hK
        unfold encK
        gi_wp2
        exact hK
      case body =>
        rintro l pre x W' ⟨⟨a, b, hbS, hbE, hG⟩, hF, hB⟩ hpl
        have hx := HDE.out x
        obtain ⟨g1, g2, g3, g4, g5⟩ := hG
        have hG : LvG ds (sumW W) m pre a b := ⟨g1, g2, g3, g4, g5⟩
        have hpl2 : (pre.length : Int) * 1048576 ≤ 400 * 1048576 := by have := HDL.out; omega
        have cS := hbS.cell
        have fS := hbS.frozen
        have cE := hbE.cell
        have fE := hbE.frozen
        obtain ⟨y, hy⟩ : ∃ y, ds.getD (cl ds.length x) 0 * b = y := ⟨_, rfl⟩
        have hy0 : 0 ≤ y := by rw [← hy]; exact Int.mul_nonneg (by omega) (by omega)
        have hy1 : y ≤ 1048576 * 400 := by rw [← hy]; exact Int.mul_le_mul (by omega) (by omega) (by omega) (by omega)
        have hst : (b < 2 ∨ ds.getD (cl ds.length x) 0 * b ≤ a) → LvX ds (sumW W) m (pre ++ [x]) a b := fun h => hG.stop x h
        have hgo : ¬ (b < 2 ∨ ds.getD (cl ds.length x) 0 * b ≤ a) → LvG ds (sumW W) m (pre ++ [x]) (a - ds.getD (cl ds.length x) 0) (b - 1) := fun h => hG.go x hx h
        rw [hy] at hst hgo
        have HST := Lib.hid hst
        have HGO := Lib.hid hgo
        have HBS2 := Lib.hid hbS
        have HBE2 := Lib.hid hbE
        have HF := Lib.hid hF
        have HB := Lib.hid hB
        have hneE : w3.heap.size ≠ w.heap.size + 1 := by have := hb30.size; omega
        clear hbS hbE hG g1 hst hgo hF hB
        generalize ds.getD (cl ds.length x) 0 = v at *
        rcases Classical.em (b < 2) with h2 | h2
        · have d1 : decide (b < 2) = true := decide_eq_true h2
          have HX := Lib.hid (HST.out (.inl h2))
          clear h2
          gi_wp2
          first | exact ⟨KeepsFrom.refl _ _, ⟨a, b, HBS2.out, HBE2.out, rfl, HX.out⟩, HF.out, HB.out⟩ | exact ⟨KeepsFrom.refl _ _, ⟨a, HBS2.out, b, HBE2.out, rfl, HX.out⟩, HF.out, HB.out⟩
        · have d1 : decide (b < 2) = false := decide_eq_false h2
          rcases Classical.em (y ≤ a) with h3 | h3
          · have d2 : decide (y ≤ a) = true := decide_eq_true h3
            have HX := Lib.hid (HST.out (.inr h3))
            clear h3
            gi_wp2
            first | exact ⟨KeepsFrom.refl _ _, ⟨a, b, HBS2.out, HBE2.out, rfl, HX.out⟩, HF.out, HB.out⟩ | exact ⟨KeepsFrom.refl _ _, ⟨a, HBS2.out, b, HBE2.out, rfl, HX.out⟩, HF.out, HB.out⟩
          · have d2 : decide (y ≤ a) = false := decide_eq_false h3
            have HX := Lib.hid (HGO.out (by rw [not_or]; exact ⟨h2, h3⟩))
            have hS2 := HBS2.out.set (.int .i64 (a - v))
            have hE2 := boxed_otherL HBE2.out (c := ⟨w.heap.size + 1, 0, none⟩) (fun e => hneE e.symm) (.int .i64 (a - v))
            have cE2 := hE2.cell
            have fE2 := hE2.frozen
            have FIN : Hid (∀ W2, W2 = (W'.setCell ⟨w.heap.size + 1, 0, none⟩ (.int .i64 (a - v))).setCell ⟨w3.heap.size, 0, none⟩ (.int .i64 (b - 1)) → KeepsFrom W0.heap.size W' W2 ∧ KL (w3.heap.size + 1) g W' W2 ∧ ((∃ a b, Boxed W2 (w.heap.size + 1) 3 (.int .i64 a) ∧ Boxed W2 w3.heap.size 3 (.int .i64 b) ∧ LvG ds (sumW W) m (pre ++ [x]) a b) ∧ (FB W2 w.heap.size 0 0 ∧ Below w.heap.size w W2))) := fun W2 e => by
              subst e
              refine ⟨((KeepsOthers.setCell W' _ _).trans (KeepsOthers.setCell _ _ _)).from _, ⟨?_, ?_⟩, ⟨_, _, boxed_otherL hS2 (c := ⟨w3.heap.size, 0, none⟩) hneE _, hE2.set _, HX.out⟩, ?_, ?_⟩
              · rw [heap_setCell_other _ ⟨w3.heap.size, 0, none⟩ _ _ (by show w3.heap.size + 1 ≠ w3.heap.size; omega), heap_setCell_other _ ⟨w.heap.size + 1, 0, none⟩ _ _ (by show w3.heap.size + 1 ≠ w.heap.size + 1; omega)]
              · rw [heap_setCell_other _ ⟨w3.heap.size, 0, none⟩ _ _ (by show g ≠ w3.heap.size; omega), heap_setCell_other _ ⟨w.heap.size + 1, 0, none⟩ _ _ (by show g ≠ w.heap.size + 1; omega)]
              · exact (HF.out.other (c := ⟨w.heap.size + 1, 0, none⟩) (by show w.heap.size + 1 ≠ w.heap.size; omega) _).other (c := ⟨w3.heap.size, 0, none⟩) (by show w3.heap.size ≠ w.heap.size; omega) _
              · exact (HB.out.setCell (p := ⟨w.heap.size + 1, 0, none⟩) (by show w.heap.size ≤ w.heap.size + 1; omega) _).setCell (p := ⟨w3.heap.size, 0, none⟩) (by show w.heap.size ≤ w3.heap.size; omega) _
            clear h2 h3 hS2 hE2 HGO HST HX
            gi_wp2
            exact FIN.out _ rfl
      case done =>
        rintro D ys W' hD rfl ⟨⟨a, b, hbS, hbE, hG⟩, hF, hB⟩ hK
        have hab : r = (a, b) := by rw [← HRD.out]; exact hG.all
        subst hab
        have cS := hbS.cell
        have cE := hbE.cell
        have f0 := hF.c0
        have f1 := hF.c1
        have g0 := Bs.frozen hF 0
        have g1 := Bs.frozen hF 1
        have FIN := Lib.hid (lv_fin hF hB hK (by omega) a b)
        clear hbS hbE hG hF hB
        gi_wp2
        refine ⟨by simp, .inl ⟨_, _, rfl, run_takeDeferred FIN.out.1, ?_⟩⟩
        exact ⟨_, results_frac (p := 4) (u := 5) rfl _ rfl rfl FIN.out.2.1, rfl, FIN.out.2.2⟩
      case stop =>
        rintro D c pre W' hD hpre ⟨⟨a, b, hbS, hbE, rfl, hG⟩, hF, hB⟩ hK
        have hab : r = (a, b) := by rw [← HRD.out]; exact hG.all hpre
        subst hab
        have cS := hbS.cell
        have cE := hbE.cell
        have f0 := hF.c0
        have f1 := hF.c1
        have g0 := Bs.frozen hF 0
        have g1 := Bs.frozen hF 1
        have FIN := Lib.hid (lv_fin hF hB hK (by omega) a b)
        clear hbS hbE hG hF hB hpre
        gi_wp2
        refine ⟨by simp, .inl ⟨_, _, rfl, run_takeDeferred FIN.out.1, ?_⟩⟩
        exact ⟨_, results_frac (p := 4) (u := 5) rfl _ rfl rfl FIN.out.2.1, rfl, FIN.out.2.2⟩

theorem level_any (A : Option Addr) (ca : Nat) (W : List Int) (m : Int) (w : World) (hW : IP w A ca W) :
    Calls Try.prog 9 #[.slice A W.length ca, .int .i64 m] w fun e w' => e = .returned (lvtup (levC W m)) ∧ Below w.heap.size w w' := by
  rcases Classical.em (WD W m ∧ m < W.length) with h | h
  · exact level_good A ca W m w hW h.1 h.2
  · exact level_bad A ca W m w hW h
end Go.Proofs.Ytkcgcojhgcfgmaa
