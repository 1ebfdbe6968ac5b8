/- lotdrawerkeep.JoinNone: the walk. -/
import Derived.Test.YtgmbhlkjnamjhaaJa
import Derived.Test.YtgmbhlkjnamjhaaJ8
import Derived.Test.YtgmbhlkjnamjhaaCo2
namespace Go.Proofs.Ytgmbhlkjnamjhaa
open Go.RowKit Go.Deep

/-- Both arguments as variables. -/
structure JA (w : World) (ra ca : Int) (va : Value) (rb cb : Int) (vb : Value) (wx : World) : Prop where
  bl : Below w.heap.size w wx
  a : PB wx w.heap.size ra ca va
  b : PB wx (w.heap.size + 1) rb cb vb
theorem JA.later {w : World} {ra ca rb cb : Int} {va vb : Value} {wx wy : World} (h : JA w ra ca va rb cb vb wx) (hb : Below wx.heap.size wx wy) : JA w ra ca va rb cb vb wy :=
  ⟨h.bl.trans (hb.mono h.bl.size), h.a.later hb, h.b.later hb⟩
theorem JA.new (w : World) (ra ca : Int) (va : Value) (rb cb : Int) (vb : Value) : JA w ra ca va rb cb vb ((w.alloc (.cells #[.int .i64 ra, .int .i64 ca, va] 24)).alloc (.cells #[.int .i64 rb, .int .i64 cb, vb] 24)) := by
  refine ⟨((Below.refl _ _).alloc (Nat.le_refl _) _).alloc (by simp) _, ?_, ?_⟩
  · exact (PB.new w ra ca va).alloc _
  · have := PB.new (w.alloc (.cells #[.int .i64 ra, .int .i64 ca, va] 24)) rb cb vb
    simpa using this
theorem perm_step {left r rest : List Int} {i k : Nat} (h : left.Perm (r.drop i ++ rest)) (hi : i < r.length) (hk : k < left.length) (e : left.getD k 0 = r.getD i 0) : (left.eraseIdx k).Perm (r.drop (i + 1) ++ rest) := by
  have h1 := (erase_perm hk).trans h
  rw [e, drop_cons hi] at h1
  exact List.Perm.cons_inv h1
theorem perm_in {left r rest : List Int} {i : Nat} (h : left.Perm (r.drop i ++ rest)) (hi : i < r.length) : r.getD i 0 ∈ left := by
  rw [drop_cons hi] at h
  exact h.symm.subset List.mem_cons_self

set_option maxRecDepth 100000 in
set_option maxHeartbeats 8000000 in
theorem joinNone_walk (ra ca rb cb : Int) (A B W H : Option Addr) (ka kb wc hc : Nat) (xs ys ws hs : List Int) (w : World) (hA : IP w A ka xs) (hB : IP w B kb ys) (hW : IP w W wc ws) (hH : IP w H hc hs) :
    Calls Try.prog 6 #[pv ra ca (.slice A xs.length ka), pv rb cb (.slice B ys.length kb), .slice W ws.length wc, .slice H hs.length hc] w fun e w' => e = .returned (.bool true) ∧ Below w.heap.size w w' := by
  have hJ0 := JA.new w ra ca (.slice A xs.length ka) rb cb (.slice B ys.length kb)
  have CA := Lib.hid (alive7_any ((w.alloc (.cells #[.int .i64 ra, .int .i64 ca, .slice A xs.length ka] 24)).alloc (.cells #[.int .i64 rb, .int .i64 cb, .slice B ys.length kb] 24)))
  have HJ0 := Lib.hid hJ0
  have HA := Lib.hid hA
  have HB := Lib.hid hB
  have HW := Lib.hid hW
  have HH := Lib.hid hH
  clear hJ0 hA hB hW hH
  unfold pv
  go_enter Try.func6, Try.ntmps6
  go_wp2_with fail
  refine CA.out.mono ?_
  rintro e w1 ⟨rfl, hb1⟩
  have HJ1 := Lib.hid (HJ0.out.later hb1)
  clear hb1 CA HJ0
  obtain ⟨a0, a1, a2, _⟩ := HJ1.out.a.at
  obtain ⟨b0, b1, b2, _⟩ := HJ1.out.b.at
  have CP := Lib.hid (pools_any ra ca rb cb A B W H ka kb wc hc xs ys ws hs w1 (HA.out.later HJ1.out.bl) (HB.out.later HJ1.out.bl) (HW.out.later HJ1.out.bl) (HH.out.later HJ1.out.bl))
  unfold pv at CP
  go_wp2_with fail
  refine CP.out.mono ?_
  rintro e w2 ⟨v, rfl, hO, hb2⟩
  have HJ2 := Lib.hid (HJ1.out.later hb2)
  clear hb2 CP HJ1 a0 a1 a2 b0 b1 b2
  obtain ⟨q, hq⟩ : ∃ q, poolsR ra ca xs rb cb ys ws hs = q := ⟨_, rfl⟩
  unfold pv
  by_cases h0 : (poolsR ra ca xs rb cb ys ws hs).2 = 0
  · obtain ⟨hj, hf, r, rest, hr, hl, hp⟩ := poolsR_ok h0
    rw [hr] at hO ⊢
    obtain ⟨⟨⟨j1, j2⟩, j3, j4, j5⟩, ⟨_, j7, j8, j9⟩, j10⟩ := hj
    subst j10
    obtain ⟨R, cr, e, hI⟩ := hO.ip
    subst e
    obtain ⟨M, hM⟩ : ∃ M, ca + cb = M := ⟨_, rfl⟩
    rw [hM] at hl hf ⊢
    have k1 : Below w2.heap.size w2 (w2.alloc (.cells #[.int .i64 ra, .int .i64 M, .slice R r.length cr] 24)) := (Below.refl _ _).alloc (Nat.le_refl _) _
    have k2 : Below (w2.heap.size + 1) (w2.alloc (.cells #[.int .i64 ra, .int .i64 M, .slice R r.length cr] 24)) ((w2.alloc (.cells #[.int .i64 ra, .int .i64 M, .slice R r.length cr] 24)).alloc (.cells #[.slice A xs.length ka, .slice B ys.length kb] 22)) := (Below.refl _ _).alloc (by simp) _
    have k3 := k1.trans (k2.mono (Nat.le_succ _))
    have hQ := (PB.new w2 ra M (.slice R r.length cr)).alloc (.cells #[.slice A xs.length ka, .slice B ys.length kb] 22)
    have hG : Bs 22 ((w2.alloc (.cells #[.int .i64 ra, .int .i64 M, .slice R r.length cr] 24)).alloc (.cells #[.slice A xs.length ka, .slice B ys.length kb] 22)) (w2.heap.size + 1) [.slice A xs.length ka, .slice B ys.length kb] := heap_alloc2_new w2 _ _
    have hJ3 := HJ2.out.later k3
    have hI3 := hI.later k3
    obtain ⟨a0, a1, a2, _⟩ := (HJ2.out.later k1).a.at
    obtain ⟨b0, b1, b2, _⟩ := (HJ2.out.later k1).b.at
    have HJ3 := Lib.hid hJ3
    have HI3 := Lib.hid hI3
    have HQ := Lib.hid hQ
    have hxl : xs.length ≤ 400 := by omega
    have hyl : ys.length ≤ 400 := by omega
    have CC := Lib.hid (concat_oi (w2.heap.size + 1) A B ka kb xs ys _ (Bs.lt hG) (Bs.cell hG (j := 0) (by simp)) (Bs.cell hG (j := 1) (by simp)) (HA.out.later hJ3.bl) (HB.out.later hJ3.bl) (by omega))
    have hle := hI.le
    have hcap := hI.cap
    have HP := Lib.hid hp
    have HL := Lib.hid (And.intro hl (And.intro j5 j9))
    clear k1 k2 k3 hQ hG hJ3 hI3 hI hO HJ2 h0 hr hp hl j5 j9 hq
    go_wp2_with fail
    refine CC.out.mono ?_
    rintro e w4 ⟨lv, rfl, hO4, hb4⟩
    generalize ((w2.alloc (.cells #[.int .i64 ra, .int .i64 M, .slice R r.length cr] 24)).alloc (.cells #[.slice A xs.length ka, .slice B ys.length kb] 22)) = w3 at *
    have HO4 := Lib.hid hO4
    have HB4 := Lib.hid hb4
    clear a0 a1 a2 b0 b1 b2
    obtain ⟨q0, q1, q2, _⟩ := (HQ.out.later hb4).at
    clear hO4 hb4 CC
    go_wp2_with fail
    go_loopw [11, 40] (fun lv iv wr => ∃ (i : Nat) (left : List Int), i ≤ r.length ∧ iv = .int .i64 i ∧ OI wr w3.heap.size lv left ∧ left.Perm (r.drop i ++ rest) ∧ Below w3.heap.size w3 wr) (fun _ iv _ => r.length - (intOf iv).toNat)
    case atStart => exact ⟨0, xs ++ ys, by omega, rfl, HO4.out, HP.out.symm, HB4.out⟩
    case round =>
      clear q0 q1 q2 HO4 HB4
      obtain ⟨i, left, hi, rfl, hO, hP, hB5⟩ := hrel
      obtain ⟨RL, cl, e, hIL⟩ := hO.ip
      subst e
      have HO := Lib.hid hO
      have HPm := Lib.hid hP
      have HB5 := Lib.hid hB5
      have HIL := Lib.hid hIL
      clear hO hP hB5 hIL
      by_cases hlt : i < r.length
      · obtain ⟨rb0, roff, rfl, _, hrc⟩ := (HI3.out.later HB5.out).il.at (by omega)
        have hri := hrc i hlt
        have hin := perm_in HPm.out hlt
        have CI := Lib.hid (index_any RL cl left (r.getD i 0) wr HIL.out)
        have hil : (i : Int) < (r.length : Int) := by omega
        obtain ⟨x, hx⟩ : ∃ x, r.getD i 0 = x := ⟨_, rfl⟩
        rw [hx] at hri hin CI
        have HX := Lib.hid hx
        clear hrc hx
        go_wp2_with fail
        refine CI.out.mono ?_
        rintro e w5 ⟨z, rfl, hz, hb5⟩
        rcases hz with ⟨_, hno⟩ | ⟨k, rfl, hk, hkx⟩
        · exact absurd hin hno
        · have HO5 := Lib.hid (HO.out.later hb5)
          have HB6 : Hid (Below w3.heap.size w3 w5) := HB5.out.trans (hb5.mono HB5.out.size)
          have CD := Lib.hid (delete_any (.slice RL left.length cl) w3.heap.size k left w5 HO5.out hk)
          have HPn := Lib.hid (perm_step HPm.out hlt hk (hkx.trans HX.out.symm))
          have hk8 : k < 800 := by
            have e1 := HPm.out.length_eq
            have e2 := HP.out.length_eq
            simp only [List.length_append, List.length_drop] at e1 e2
            omega
          clear hb5 CI hkx hin
          go_wp2_with fail
          refine CD.out.mono ?_
          rintro e w6 ⟨lv2, rfl, hO6, hb6, _⟩
          have HO6 := Lib.hid hO6
          have HB7 := Lib.hid (HB6.out.trans hb6)
          clear hO6 hb6 CD
          go_wp2
          go_roundw
          case rel => exact ⟨i + 1, _, hlt, by go_num, HO6.out, HPn.out, HB7.out⟩
          case measure => simp [intOf]; omega
      · obtain rfl : r.length = i := by omega
        obtain ⟨q0, q1, q2, _⟩ := (HQ.out.later HB5.out).at
        have hJ5 := HJ3.out.later HB5.out
        obtain ⟨a0, a1, a2, _⟩ := hJ5.a.at
        obtain ⟨b0, b1, b2, _⟩ := hJ5.b.at
        have HBE := Lib.hid hJ5.bl
        obtain ⟨l1, l2, l3⟩ := HL.out
        have hM2 : ((M : Int) == M) = true := by simp
        have hR2 : ((ra : Int) == ra) = true := by simp
        have hlen : ((r.length : Int) == (r.length : Int)) = true := by simp
        have hpl : left.length + r.length = xs.length + ys.length := by
          have e1 := HPm.out.length_eq
          have e2 := HP.out.length_eq
          rw [List.drop_eq_nil_of_le (Nat.le_refl _)] at e1
          simp only [List.nil_append, List.length_append] at e1 e2
          omega
        by_cases hcb : 0 < cb
        · clear hJ5 l2 l3 hpl HO HPm HIL
          go_wp2
          all_goals
            go_ret
            exact ⟨rfl, HBE.out⟩
        · have hl0 : left.length = 0 := by omega
          have hl1 : ((left.length : Int) == 0) = true := by rw [hl0]; rfl
          clear hJ5 l2 l3 hpl HO HPm HIL
          go_wp2
          all_goals
            go_ret
            exact ⟨rfl, HBE.out⟩
  · have hz := poolsR_err h0
    rw [hq] at hz h0 hO ⊢
    obtain ⟨q1, q2⟩ := q
    have hz : q1 = pz := hz
    subst hz
    have h0 : ¬ q2 = 0 := h0
    obtain ⟨R, cr, e, hI⟩ := hO.ip
    subst e
    unfold pz
    have t0 : (q2 != 0) = true := by simp [h0]
    have hJ3 := Lib.hid (HJ2.out.bl.alloc HJ2.out.bl.size (.cells #[.int .i64 0, .int .i64 0, .slice R 0 cr] 24))
    clear hI hO hq
    go_wp2
    go_ret
    exact ⟨rfl, hJ3.out⟩
end Go.Proofs.Ytgmbhlkjnamjhaa
