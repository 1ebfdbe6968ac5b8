/- lotdrawerref.KLevel. -/
import Derived.Test.YtkcgcojhgcfgmaaL3
import Derived.Test.YtkcgcojhgcfgmaaSa
import Derived.Test.YtkcgcojhgcfgmaaCa
import Derived.Deep.RegionLaw
namespace Go.Proofs.Ytkcgcojhgcfgmaa
open Go.RowKit Go.Deep

theorem ret_frac1 {fn : Func} {p : Tmp} (h : fn.results = #[.cell p 24]) {R : Ending → World → Prop} {a : Act} {w : World} {g : Nat} {r c : Int} (hp : a.tmps.getD p undef = .pointer (some ⟨g, 0, none⟩))
    (hg : FB w g r c) (hd : a.defers = []) (hR : R (.returned (fval (r, c))) w) : bodyPost Try.prog fn R .ret a w :=
  bodyPost_ret (results_cell_row h a.tmps w g 24 #[.int .i64 r, .int .i64 c] (0, 0) _ hp hg Try.underlying24 rfl (by kernel_rfl)) hd hR

/-- Of the first k none is greater than the one at i. -/
def TopD (L : List Int) (k i : Nat) : Prop := ∀ j, j < k → L.getD j 0 ≤ L.getD i 0
/-- What stands at the head of the loop. -/
structure KR (L : List Int) (n : Int) (r : Int × Int) : Prop where
  e : lv (dsc L) (sumW L) n = r
  n1 : 1 ≤ n
  n2 : n < L.length
  l : L.length ≤ 400
  x : ∀ x ∈ L, 1 ≤ x ∧ x ≤ 1048576
theorem KR.at {L : List Int} {n : Int} {r : Int × Int} (h : KR L n r) {k : Nat} (hk : k < L.length) : 1 ≤ L.getD k 0 ∧ L.getD k 0 ≤ 1048576 := h.x _ (memV hk)
theorem KR.stop {L : List Int} {n : Int} {r : Int × Int} (h : KR L n r) {k : Nat} (hk : k < L.length) (hM : ∀ j, j < L.length → L.getD j 0 ≤ L.getD k 0) (hs : n < 2 ∨ L.getD k 0 * n ≤ sumW L) : r = (sumW L, n) := by
  rw [← h.e, dsc_cut hk hM, lv_stop _ hs]
theorem KR.go {L : List Int} {n : Int} {r : Int × Int} (h : KR L n r) {k : Nat} (hk : k < L.length) (hM : ∀ j, j < L.length → L.getD j 0 ≤ L.getD k 0) (hs : ¬ (n < 2 ∨ L.getD k 0 * n ≤ sumW L)) : KR (L.take k ++ L.drop (k + 1)) (n - 1) r := by
  have hl := len_cut hk
  have h1 := h.n1
  have h2 := h.n2
  have h3 := h.l
  have hs2 := hs
  rw [not_or] at hs2
  refine ⟨?_, by omega, by omega, by omega, fun x hx => ?_⟩
  · rw [sum_cut hk, ← h.e, dsc_cut hk hM, lv_go _ hs]
  · rcases List.mem_append.1 hx with hx | hx
    · exact h.x x (List.mem_of_mem_take hx)
    · exact h.x x (List.mem_of_mem_drop hx)
theorem mulD' {x D : Int} (h1 : 1 ≤ x) (h2 : x ≤ 1048576) (h3 : 0 ≤ D) (h4 : D ≤ 400) : 0 ≤ x * D ∧ x * D ≤ 419430400 := by
  refine ⟨Int.mul_nonneg (by omega) h3, ?_⟩
  have : x * D ≤ 1048576 * 400 := Int.mul_le_mul h2 h4 h3 (by omega)
  omega
theorem pre_boundD {L : List Int} {k : Nat} (hx : ∀ x ∈ L, 1 ≤ x ∧ x ≤ 1048576) (hl : L.length ≤ 400) : 0 ≤ pre L k ∧ pre L k ≤ 419430400 := by
  have := sumD_bound (W := L.take k) (fun x h => hx x (List.mem_of_mem_take h))
  rw [List.length_take] at this
  unfold pre
  omega

set_option maxRecDepth 100000 in
set_option maxHeartbeats 4000000 in
theorem klevel_any (A : Option Addr) (ca : Nat) (W : List Int) (m : Int) (w : World) (hW : IP w A ca W) (hD : WD W m) :
    Calls Try.prog 14 #[.slice A W.length ca, .int .i64 m] w fun e w' => e = .returned (fval (levF W m)) ∧ Below w.heap.size w w' := by
  have hle := hW.le
  have hcap := hW.cap
  have HF0 := Lib.hid (fb_new w 0 0)
  have hB0 : Below w.heap.size w (w.alloc (.cells #[.int .i64 0, .int .i64 0] 24)) := (Below.refl _ _).alloc (Nat.le_refl _) _
  by_cases hl : (W.length : Int) ≤ m
  · rw [levF_few hl]
    have t1 : decide ((W.length : Int) ≤ m) = true := decide_eq_true hl
    have HB0 := Lib.hid hB0
    clear hW hD hl hB0
    go_enter Try.func14, Try.ntmps14
    go_wp2
    exact ret_frac1 (p := 4) rfl rfl HF0.out rfl ⟨rfl, HB0.out⟩
  · rw [levF_more hl]
    obtain ⟨r, hr⟩ : ∃ r, lv (dsc W) (sumW W) m = r := ⟨_, rfl⟩
    have HK : Hid (KR W m r) := ⟨hr, hD.2.1, by omega, hD.1, hD.2.2.2⟩
    rw [hr]
    have t1 : decide ((W.length : Int) ≤ m) = false := decide_eq_false hl
    have HW0 := Lib.hid (hW.later hB0)
    have HB0 := Lib.hid hB0
    have h4 := hD.1
    clear hW hD hl hB0 hr
    obtain ⟨w0, hw0⟩ : ∃ w0, w.alloc (.cells #[.int .i64 0, .int .i64 0] 24) = w0 := ⟨_, rfl⟩
    have HS0 : Hid (w.heap.size < w0.heap.size) := by show _ < _; rw [← hw0]; simp
    rw [hw0] at HW0 HB0 HF0
    go_enter Try.func14, Try.ntmps14
    go_wp2_with (at_builtin; refine wpList_copyA rfl _ _ rfl A W.length ca W rfl rfl rfl HW0.out (by omega) ?_)
    intro v w1 hO hb1
    obtain ⟨R, cr, rfl, hI⟩ := hO.ip
    have HI := Lib.hid hI
    have HF := Lib.hid (show FB w1 w.heap.size 0 0 from HF0.out.below hb1 HS0.out)
    have HB := Lib.hid (HB0.out.trans (hb1.mono HB0.out.size))
    clear hO hb1 hI HW0 HB0 HF0 HS0 hw0
    go_wp2_with fail
    go_loopw [5, 6] (fun lvv nv wr => ∃ (L : List Int) (R : Option Addr) (cr : Nat) (n : Int), lvv = .slice R L.length cr ∧ nv = .int .i64 n ∧ IP wr R cr L ∧ KR L n r ∧ FB wr w.heap.size 0 0 ∧ Below w.heap.size w wr) (fun _ nv _ => (intOf nv).toNat)
    case atStart => exact ⟨W, R, cr, m, rfl, rfl, HI.out, HK.out, HF.out, HB.out⟩
    case round =>
      clear HI HK HF HB
      obtain ⟨L, R, cr, n, rfl, rfl, hI, hK, hF, hB⟩ := hrel
      have HI := Lib.hid hI
      have HK := Lib.hid hK
      have HF := Lib.hid hF
      have HB := Lib.hid hB
      have n1 := hK.n1
      have n2 := hK.n2
      have n3 := hK.l
      have l1 := hI.le
      have l2 := hI.cap
      obtain ⟨b, off, rfl, _, hc0⟩ := hI.il.at (by omega)
      have HC := Lib.hid hc0
      clear hI hK hF hB hc0
      go_wp2_with fail
      go_loop [7, 8, 24] (fun av sv kv => ∃ k at' : Nat, k ≤ L.length ∧ at' < L.length ∧ kv = .int .i64 k ∧ av = .int .i64 at' ∧ sv = .int .i64 (pre L k) ∧ TopD L k at') (fun _ _ kv => L.length - (intOf kv).toNat)
      case atStart => exact ⟨0, 0, by omega, by omega, rfl, rfl, by rw [pre_zero], fun j hj => by omega⟩
      case round =>
        obtain ⟨k, i, hk, hi, rfl, rfl, rfl, hM⟩ := hrel
        have HM := Lib.hid hM
        have hp := pre_boundD (k := k) HK.out.x HK.out.l
        have hci := HC.out i hi
        have hi2 : (i : Int) < (L.length : Int) := by omega
        clear hM
        by_cases hlt : k < L.length
        · have hck := HC.out k hlt
          have hx := HK.out.at hlt
          have HE := Lib.hid (pre_succ hlt)
          rcases Classical.em (L.getD i 0 < L.getD k 0) with hg | hg
          · have d1 : decide (L.getD i 0 < L.getD k 0) = true := decide_eq_true hg
            have HN : Hid (TopD L (k + 1) k) := fun j hj => by
              by_cases e : j = k
              · subst e; exact Int.le_refl _
              · have := HM.out j (by omega); omega
            clear HM hg
            generalize pre L k = p at *
            generalize L.getD k 0 = x at *
            generalize L.getD i 0 = y at *
            go_wp2
            go_round
            case rel => exact ⟨k + 1, k, by omega, by omega, by go_num, by go_num, by rw [HE.out], HN.out⟩
            case measure => simp [intOf]; omega
          · have d1 : decide (L.getD i 0 < L.getD k 0) = false := decide_eq_false hg
            have HN : Hid (TopD L (k + 1) i) := fun j hj => by
              by_cases e : j = k
              · subst e; omega
              · exact HM.out j (by omega)
            clear HM hg
            generalize pre L k = p at *
            generalize L.getD k 0 = x at *
            generalize L.getD i 0 = y at *
            go_wp2
            go_round
            case rel => exact ⟨k + 1, i, by omega, by omega, by go_num, by go_num, by rw [HE.out], HN.out⟩
            case measure => simp [intOf]; omega
        · obtain rfl : k = L.length := by omega
          have hx := HK.out.at hi
          rw [pre_all] at hp ⊢
          obtain ⟨y, hy⟩ : ∃ y, L.getD i 0 * n = y := ⟨_, rfl⟩
          have hyb := mulD' hx.1 hx.2 (by omega : 0 ≤ n) (by omega : n ≤ 400)
          rw [hy] at hyb
          have hst : (n < 2 ∨ y ≤ sumW L) → r = (sumW L, n) := fun h => HK.out.stop hi HM.out (by rw [hy]; exact h)
          have hgo : ¬ (n < 2 ∨ y ≤ sumW L) → KR (L.take i ++ L.drop (i + 1)) (n - 1) r := fun h => HK.out.go hi HM.out (by rw [hy]; exact h)
          have HST := Lib.hid hst
          have HGO := Lib.hid hgo
          have f0 := HF.out.c0
          have f1 := HF.out.c1
          have g0 := Bs.frozen HF.out 0
          have g1 := Bs.frozen HF.out 1
          have HF2 := Lib.hid (HF.out.store (sumW L) n)
          have HB2 := Lib.hid ((HB.out.setCell (p := ⟨w.heap.size, 0, none⟩) (Nat.le_refl _) (.int .i64 (sumW L))).setCell (p := ⟨w.heap.size, 1, none⟩) (Nat.le_refl _) (.int .i64 n))
          clear hst hgo HM HC
          have hi3 : (0 : Int) ≤ (i : Int) := by omega
          generalize hxx : L.getD i 0 = x at *
          clear hxx
          rcases Classical.em (n < 2) with h2 | h2
          · have d1 : decide (n < 2) = true := decide_eq_true h2
            have HE := Lib.hid (HST.out (.inl h2))
            clear h2 HST HGO
            generalize sumW L = s at *
            go_wp2
            exact ret_frac1 (p := 4) rfl rfl HF2.out rfl ⟨by rw [HE.out], HB2.out⟩
          · have d1 : decide (n < 2) = false := decide_eq_false h2
            rcases Classical.em (y ≤ sumW L) with h3 | h3
            · have d2 : decide (y ≤ sumW L) = true := decide_eq_true h3
              have HE := Lib.hid (HST.out (.inr h3))
              clear h2 h3 HST HGO
              generalize sumW L = s at *
              go_wp2
              exact ret_frac1 (p := 4) rfl rfl HF2.out rfl ⟨by rw [HE.out], HB2.out⟩
            · have d2 : decide (y ≤ sumW L) = false := decide_eq_false h3
              have HE := Lib.hid (HGO.out (by rw [not_or]; exact ⟨h2, h3⟩))
              clear h2 h3 HST HGO
              generalize sumW L = s at *
              have hb1 : Below wr.heap.size wr (wr.alloc (.cells #[] 3)).drew := ((Below.refl _ _).alloc (Nat.le_refl _) _).drew
              have HO1 : Hid (OI (wr.alloc (.cells #[] 3)).drew wr.heap.size (.slice (some ⟨wr.heap.size, 0, none⟩) 0 0) []) := (OI.made0 wr wr.heap.size (Nat.le_refl _)).drew
              have HI1 := Lib.hid ((take_ip HI.out i).later hb1)
              have HL1 : Hid ((L.take i).length = i) := by show _ = _; rw [List.length_take]; omega
              obtain ⟨A2, hA2, hI2⟩ := tail_ip HI.out (c := i + 1) (by omega)
              rw [Option.map_some, Addr.add_lit] at hA2
              obtain ⟨ad, rfl⟩ : ∃ ad, A2 = some ad := by
                rw [← hA2]
                split
                · exact ⟨_, rfl⟩
                · exact ⟨_, rfl⟩
              obtain ⟨q, hq⟩ : ∃ q, i + 1 = q := ⟨_, rfl⟩
              have hw : IntKind.i64.wrap ((i : Int) + 1) = (q : Int) := by rw [IntWalk.i64_in _ (by omega), ← hq]; push_cast; rfl
              have q1 : (i : Int) ≤ (L.length : Int) := by omega
              have q2 : (q : Int) ≤ (L.length : Int) := by omega
              have q3 : (0 : Int) ≤ (q : Int) := by omega
              have q4 : (i : Int) ≤ (cr : Int) := by omega
              have q5 : (q : Int) ≤ (cr : Int) := by omega
              have HQ := Lib.hid hq
              have HIL : Hid (i < L.length) := hi
              rw [hq] at hA2 hI2 HE
              have HL2 : Hid ((L.drop q).length = L.length - q) := List.length_drop
              have HI2 := Lib.hid hI2
              have HB1 := Lib.hid hb1
              clear hI2 hq hb1
              go_wp2_with fail
              go_region_law (first | (refine step_ownI (by rfl) (.tmp 55) (.tmp 58) (by rfl) wr.heap.size _ [] (by rfl) HO1.out ⟨b, off, none⟩ i cr (L.take i) (by rfl) HL1.out HI1.out (by rw [HL1.out]; simp; omega) (by simp) ?_; intro v1 w2 hO2 hg2; have hb2 : Below wr.heap.size wr w2 := HB1.out.grown hg2 HB1.out.size (by intro k hk; simp [Value.ownBlock] at hk; omega)) | (refine step_ownI (by rfl) (.tmp 59) (.tmp 63) (by rfl) wr.heap.size v1 (L.take i) (by rfl) hO2 ad (L.length - q) (cr - q) (L.drop q) (by rfl) HL2.out (HI2.out.later hb2) (by rw [HL1.out, HL2.out]; omega) hb2.size ?_; intro v3 w3 hO3 hg3))
              all_goals
                have hb3 : Below wr.heap.size wr w3 := hb2.grown hg3 hb2.size (fun k hk => (World.ownsRow.lt hO2 k hk).1)
                have HF3 : Hid (FB w3 w.heap.size 0 0) := HF.out.below hb3 HF.out.lt
                have HB3 := Lib.hid (HB.out.trans (hb3.mono HB.out.size))
                obtain ⟨R3, c3, rfl, hI3⟩ := hO3.ip
                have HI3 := Lib.hid hI3
                rw [← HQ.out] at HI3
                rw [← HQ.out] at HE
                have hn0 : (0 : Int) < n := by omega
                clear hO2 hO3 hg2 hg3 hb2 hb3 hI3 hA2
                go_wp2
                go_roundw
                case rel => exact ⟨L.take i ++ L.drop (i + 1), R3, c3, n - 1, by rw [HQ.out]; simp, by go_num, HI3.out, HE.out, HF3.out, HB3.out⟩
                case measure => simp [intOf]; omega
end Go.Proofs.Ytkcgcojhgcfgmaa
