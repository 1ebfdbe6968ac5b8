/- quant.All. -/
import Derived.Test.YtimcbeblmicioaaQkc
import Derived.Test.YtimcbeblmicioaaQz3
namespace Go.Proofs.Ytimcbeblmicioaa
open Go.RowKit Go.Deep

theorem rpost_of {w w' : World} {v : Value} {S : List Rk} {j : Int} (hO : OR w' w.heap.size v S) (hb : Below w.heap.size w w') : RPost w (S, j) (.returned (.tuple #[v, .int .i64 j])) w' := by
  obtain ⟨R, cap, rfl, hP⟩ := hO.rp
  exact ⟨R, cap, rfl, hP, hb⟩
set_option maxRecDepth 100000 in
set_option maxHeartbeats 2000000 in
theorem allQ_any (p : Int) (A : Option Addr) (ca : Nat) (xs : List Int) (w : World) (hX : IP w A ca xs) :
    Calls Try.prog 12 #[.int .i64 p, .slice A xs.length ca] w (RPost w (qallC p xs)) := by
  have hle := hX.le
  have hcap := hX.cap
  have HX := Lib.hid hX
  have C0 := Lib.hid (inRangeQ_any p w)
  clear hX
  by_cases hp : 1 ≤ p ∧ p ≤ 100
  · rw [decide_eq_true hp] at C0
    have HST : Hid (qallG p [] xs = qallC p xs) := by show _ = _; unfold qallC; rw [if_pos hp]
    have HQI := Lib.hid (QI.nil hp.1 hp.2)
    obtain ⟨⟨AL, ei⟩, hql⟩ : ∃ q, qallC p xs = q := ⟨_, rfl⟩
    rw [hql] at HST ⊢
    clear hp hql
    go_enter Try.func12, Try.ntmps12
    go_wp2_with fail
    refine C0.out.mono ?_
    rintro e w1 ⟨rfl, rfl⟩
    clear C0
    go_wp2_with fail
    go_loopw [6, 15] (fun lv iv wr => ∃ (k : Nat) (W : List Rk), k ≤ xs.length ∧ iv = .int .i64 k ∧ OR wr w1.heap.size lv W ∧ QI p W (xs.take k) ∧ qallG p W (xs.drop k) = (AL, ei) ∧ Below w1.heap.size w1 wr) (fun _ iv _ => xs.length - (intOf iv).toNat)
    case atStart => exact ⟨0, [], by omega, rfl, OR.nil _ _, HQI.out, HST.out, Below.refl _ _⟩
    case round =>
      clear HST HQI
      obtain ⟨k, W, hk, rfl, hO, hQ, hG, hB⟩ := hrel
      have HO := Lib.hid hO
      have HQ := Lib.hid hQ
      have HG := Lib.hid hG
      have HB := Lib.hid hB
      clear hO hQ hG hB
      by_cases hlt : k < xs.length
      · obtain ⟨bx, ox, rfl, _, hcell⟩ := (HX.out.later HB.out).il.at (by omega)
        have hc := hcell k hlt
        have hki : (k : Int) < (xs.length : Int) := by omega
        have ED : Hid (xs.drop k = xs.getD k 0 :: xs.drop (k + 1)) := by
          show _ = _
          rw [List.drop_eq_getElem_cons hlt]
          simp [List.getD_eq_getElem?_getD, hlt]
        have ET : Hid (xs.take (k + 1) = xs.take k ++ [xs.getD k 0]) := by
          show _ = _
          rw [List.take_succ_eq_append_getElem hlt]
          simp [List.getD_eq_getElem?_getD, hlt]
        rw [ED.out] at HG
        clear hcell ED
        generalize xs.getD k 0 = y at *
        have K1 := Lib.hid (addS_any p w1.heap.size u6 W y wr HO.out HQ.out.right HB.out.size)
        have HG2 : Hid ((if (qaddC p W y).2 = 0 then qallG p (qaddC p W y).1 (xs.drop (k + 1)) else ([], (qaddC p W y).2)) = (AL, ei)) := HG.out
        have HI : Hid ((qaddC p W y).2 = 0 → QI p (qaddC p W y).1 (xs.take (k + 1))) := fun h => by rw [ET.out]; exact qaddC_inv HQ.out y h
        clear HG HQ ET HO
        obtain ⟨⟨W2, j⟩, hqw⟩ : ∃ q, qaddC p W y = q := ⟨_, rfl⟩
        rw [hqw] at K1 HG2 HI
        unfold APost at K1
        dsimp only at K1 HG2 HI
        clear hqw
        go_wp2_with fail
        refine K1.out.mono ?_
        rintro e w10 ⟨v10, rfl, hO10, hb10⟩
        have HO10 := Lib.hid hO10
        have HB10 := Lib.hid (HB.out.trans hb10)
        clear hO10 hb10 K1
        by_cases hj : j = 0
        · subst hj
          rw [if_pos rfl] at HG2
          have HI2 := Lib.hid (HI.out rfl)
          clear HI
          go_wp2
          go_roundw
          case rel => exact ⟨k + 1, W2, by omega, by go_num, HO10.out, HI2.out, HG2.out, HB10.out⟩
          case measure => simp [intOf]; omega
        · rw [if_neg hj] at HG2
          have hg := HG2.out
          injection hg with hg1 hg2
          subst hg1 hg2
          have dj : (j != 0) = true := by rw [bne_iff_ne]; exact hj
          clear hj HI
          go_wp2
          go_ret2
          exact rpostQ_nil j HB10.out
      · obtain rfl : k = xs.length := by omega
        rw [List.drop_length] at HG
        have hg := HG.out
        unfold qallG at hg
        injection hg with hg1 hg2
        subst hg1 hg2
        clear HG HQ
        go_wp2
        go_ret2
        exact rpost_of HO.out HB.out
  · rw [decide_eq_false hp] at C0
    have E : Hid (qallC p xs = ([], 2)) := by show _ = _; unfold qallC; rw [if_neg hp]
    rw [E.out]
    clear hp E
    go_enter Try.func12, Try.ntmps12
    go_wp2_with fail
    refine C0.out.mono ?_
    rintro e w1 ⟨rfl, rfl⟩
    go_wp2
    go_ret2
    exact rpostQ_nil 2 (Below.refl _ _)
end Go.Proofs.Ytimcbeblmicioaa
