/- join.Pools. -/
import Derived.Test.YtjhcbjpbmbjgoaaJ5
namespace Go.Proofs.Ytjhcbjpbmbjgoaa
open Go.RowKit Go.Deep

theorem IP.take {w : World} {A : Option Addr} {ca N : Nat} {l : List Int} (h : IP w A ca l) (hN : N ≤ l.length) : IP w A ca (l.take N) := by
  refine ⟨?_, by rw [List.length_take]; have := h.le; omega, h.cap, h.none⟩
  intro h0
  have h1 : 0 < l.length := by
    rw [ivs_len, List.length_take] at h0
    omega
  obtain ⟨b, off, rfl, hb, hc⟩ := h.il.at h1
  refine ⟨b, off, rfl, hb, fun j hj => ?_⟩
  rw [ivs_len, List.length_take] at hj
  have hj2 : j < (l.take N).length := by rw [List.length_take]; omega
  rw [hc j (by omega), ivs_at hj2, getD_take (by omega)]
/-- Both arguments and the result as variables. -/
structure JB (w : World) (ra ca : Int) (va : Value) (rb cb : Int) (vb : Value) (wx : World) : Prop where
  bl : Below w.heap.size w wx
  a : PB wx w.heap.size ra ca va
  b : PB wx (w.heap.size + 1) rb cb vb
  c : PB wx (w.heap.size + 1 + 1) 0 0 (.slice none 0 0)
theorem PB.lt {w : World} {g : Nat} {r c : Int} {v : Value} (h : PB w g r c v) : g < w.heap.size := Bs.lt h
theorem JB.later {w : World} {ra ca rb cb : Int} {va vb : Value} {wx wy : World} (h : JB w ra ca va rb cb vb wx) (hb : Below wx.heap.size wx wy) : JB w ra ca va rb cb vb wy :=
  ⟨h.bl.trans (hb.mono h.bl.size), h.a.later hb, h.b.later hb, h.c.later hb⟩
theorem JB.new (w : World) (ra ca : Int) (va : Value) (rb cb : Int) (vb : Value) : JB w ra ca va rb cb vb (((w.alloc (.cells #[.int .i64 ra, .int .i64 ca, va] 28)).alloc (.cells #[.int .i64 rb, .int .i64 cb, vb] 28)).alloc (.cells #[.int .i64 0, .int .i64 0, .slice none 0 0] 28)) := by
  refine ⟨(((Below.refl _ _).alloc (Nat.le_refl _) _).alloc (by simp) _).alloc (by simp; omega) _, ?_, ?_, ?_⟩
  · exact ((PB.new w ra ca va).alloc _).alloc _
  · have := (PB.new (w.alloc (.cells #[.int .i64 ra, .int .i64 ca, va] 28)) rb cb vb).alloc (.cells #[.int .i64 0, .int .i64 0, .slice none 0 0] 28)
    simpa using this
  · have := PB.new ((w.alloc (.cells #[.int .i64 ra, .int .i64 ca, va] 28)).alloc (.cells #[.int .i64 rb, .int .i64 cb, vb] 28)) 0 0 (.slice none 0 0)
    simpa using this
theorem JB.ret {w : World} {ra ca rb cb : Int} {va vb : Value} {wx : World} {e : Int} {q : Res} (h : JB w ra ca va rb cb vb wx) (E : q = (pz, e)) : PB (((wx.setCell ⟨w.heap.size + 1 + 1, 0, none⟩ (.int .i64 0)).setCell ⟨w.heap.size + 1 + 1, 1, none⟩ (.int .i64 0)).setCell ⟨w.heap.size + 1 + 1, 2, none⟩ (.slice none 0 0)) (w.heap.size + 1 + 1) 0 0 (.slice none 0 0) ∧
    PPost w.heap.size w q (.returned (.tuple #[pv 0 0 (.slice none 0 0), .int .i64 e])) (((wx.setCell ⟨w.heap.size + 1 + 1, 0, none⟩ (.int .i64 0)).setCell ⟨w.heap.size + 1 + 1, 1, none⟩ (.int .i64 0)).setCell ⟨w.heap.size + 1 + 1, 2, none⟩ (.slice none 0 0)) := by
  subst E
  exact ⟨h.c.store 0 0 _, ppost_none (below_store h.bl (by omega) _ _ _)⟩
theorem ppost_ok {B : Nat} {w w' : World} {q : Res} {r c : Int} {acc : List Int} {v : Value} (E : q = ((r, c, acc), 0)) (hO : OI w' B v acc) (h : Below B w w') : PPost B w q (.returned (.tuple #[pv r c v, .int .i64 0])) w' := by
  subst E
  exact ⟨_, rfl, hO, h⟩
theorem poolsR_form {ra ca : Int} {xs : List Int} {rb cb : Int} {ys ws hs : List Int} (h : ¬ JR ra ca xs rb cb ys) : poolsR ra ca xs rb cb ys ws hs = (pz, 1) := if_neg h

set_option maxRecDepth 100000 in
set_option maxHeartbeats 8000000 in
theorem pools_any (ra ca rb cb : Int) (A B W H : Option Addr) (ka kb wc hc : Nat) (xs ys ws hs : List Int) (w : World) (hA : IP w A ka xs) (hB : IP w B kb ys) (hW : IP w W wc ws) (hH : IP w H hc hs) :
    Calls Try.prog 22 #[pv ra ca (.slice A xs.length ka), pv rb cb (.slice B ys.length kb), .slice W ws.length wc, .slice H hs.length hc] w (PPost w.heap.size w (poolsR ra ca xs rb cb ys ws hs)) := by
  have HJ0 := Lib.hid (JB.new w ra ca (.slice A xs.length ka) rb cb (.slice B ys.length kb))
  have RA : Hid (∀ wx, Calls Try.prog 33 #[pv ra ca (.slice A xs.length ka)] wx fun e w' => e = .returned (.bool (prB ra ca xs)) ∧ Below wx.heap.size wx w') := fun wx => poolRight_any ra ca A ka xs wx
  have RB : Hid (∀ wx, Calls Try.prog 33 #[pv rb cb (.slice B ys.length kb)] wx fun e w' => e = .returned (.bool (prB rb cb ys)) ∧ Below wx.heap.size wx w') := fun wx => poolRight_any rb cb B kb ys wx
  have HA := Lib.hid hA
  have HB := Lib.hid hB
  have HW := Lib.hid hW
  have HH := Lib.hid hH
  have lw := hW.le
  have lh := hH.le
  have cw := hW.cap
  have ch := hH.cap
  clear hA hB hW hH
  unfold pv at *
  by_cases pa : PR ra ca xs
  · have ea : prB ra ca xs = true := decide_eq_true pa
    rw [ea] at RA
    clear ea
    by_cases pb : PR rb cb ys
    · have eb : prB rb cb ys = true := decide_eq_true pb
      rw [eb] at RB
      clear eb
      by_cases er : ra = rb
      · have hj : JR ra ca xs rb cb ys := ⟨pa, pb, er⟩
        have HE : Hid (poolsR ra ca xs rb cb ys ws hs = _) := if_pos hj
        obtain ⟨⟨pa1, pa2⟩, pa3, pa4, pa5⟩ := pa
        obtain ⟨_, pb3, pb4, pb5⟩ := pb
        have xl : xs.length ≤ 400 := by omega
        have yl : ys.length ≤ 400 := by omega
        clear hj pa5 pb5
        subst er
        obtain ⟨R, rfl⟩ : ∃ R : Nat, ra = R := ⟨ra.toNat, by omega⟩
        obtain ⟨P, rfl⟩ : ∃ P : Nat, ca = P := ⟨ca.toNat, by omega⟩
        obtain ⟨Q, rfl⟩ : ∃ Q : Nat, cb = Q := ⟨cb.toNat, by omega⟩
        obtain ⟨M, hM⟩ : ∃ M : Nat, (P : Int) + (Q : Int) = M := ⟨P + Q, by omega⟩
        rw [hM] at HE
        have tne : ((R : Int) != (R : Int)) = false := by simp
        by_cases hfull : (1099511627776 : Int) < M
        · have E := Lib.hid (HE.out.trans (if_pos hfull))
          clear HE
          go_enter Try.func22, Try.ntmps22
          go_wp2_with fail
          refine (RA.out _).mono ?_
          rintro e w1 ⟨rfl, hb1⟩
          have HJ1 := Lib.hid (HJ0.out.later hb1)
          clear hb1 HJ0
          obtain ⟨b0, b1, b2, _, _, _⟩ := HJ1.out.b.at
          go_wp2_with fail
          refine (RB.out _).mono ?_
          rintro e w2 ⟨rfl, hb2⟩
          have HJ2 := Lib.hid (HJ1.out.later hb2)
          clear hb2 HJ1 b0 b1 b2
          obtain ⟨a0, a1, a2, _, _, _⟩ := HJ2.out.a.at
          obtain ⟨b0, b1, b2, _, _, _⟩ := HJ2.out.b.at
          obtain ⟨c0, c1, c2, c3, c4, c5⟩ := HJ2.out.c.at
          go_wp2
          have hr := HJ2.out.ret E.out
          exact ret_pool (p := 8) (u := 9) rfl rfl rfl hr.1 rfl hr.2
        · have HE2 := Lib.hid (HE.out.trans (if_neg hfull))
          clear HE
          obtain ⟨N, hN⟩ : ∃ N : Nat, min (R : Int) (M : Int) = N := ⟨min R M, by omega⟩
          rw [hN] at HE2
          rcases (show ws.length < N ∨ (N ≤ ws.length ∧ hs.length < N) ∨ (N ≤ ws.length ∧ N ≤ hs.length) by omega) with hs1 | ⟨hs1, hs2⟩ | ⟨hs1, hs2⟩
          · have E := Lib.hid (HE2.out.trans (if_pos (.inl (by omega))))
            clear HE2
            rcases (show ((R : Int) ≤ M ∧ N = R) ∨ ((M : Int) < R ∧ N = M) by omega) with ⟨hrm, rfl⟩ | ⟨hrm, rfl⟩
            all_goals
              go_enter Try.func22, Try.ntmps22
              go_wp2_with fail
              refine (RA.out _).mono ?_
              rintro e w1 ⟨rfl, hb1⟩
              have HJ1 := Lib.hid (HJ0.out.later hb1)
              clear hb1 HJ0
              obtain ⟨b0, b1, b2, _, _, _⟩ := HJ1.out.b.at
              go_wp2_with fail
              refine (RB.out _).mono ?_
              rintro e w2 ⟨rfl, hb2⟩
              have HJ2 := Lib.hid (HJ1.out.later hb2)
              clear hb2 HJ1 b0 b1 b2
              obtain ⟨a0, a1, a2, _, _, _⟩ := HJ2.out.a.at
              obtain ⟨b0, b1, b2, _, _, _⟩ := HJ2.out.b.at
              obtain ⟨c0, c1, c2, c3, c4, c5⟩ := HJ2.out.c.at
              go_wp2
              have hr := HJ2.out.ret E.out
              exact ret_pool (p := 8) (u := 9) rfl rfl rfl hr.1 rfl hr.2
          · have E := Lib.hid (HE2.out.trans (if_pos (.inr (by omega))))
            clear HE2
            rcases (show ((R : Int) ≤ M ∧ N = R) ∨ ((M : Int) < R ∧ N = M) by omega) with ⟨hrm, rfl⟩ | ⟨hrm, rfl⟩
            all_goals
              go_enter Try.func22, Try.ntmps22
              go_wp2_with fail
              refine (RA.out _).mono ?_
              rintro e w1 ⟨rfl, hb1⟩
              have HJ1 := Lib.hid (HJ0.out.later hb1)
              clear hb1 HJ0
              obtain ⟨b0, b1, b2, _, _, _⟩ := HJ1.out.b.at
              go_wp2_with fail
              refine (RB.out _).mono ?_
              rintro e w2 ⟨rfl, hb2⟩
              have HJ2 := Lib.hid (HJ1.out.later hb2)
              clear hb2 HJ1 b0 b1 b2
              obtain ⟨a0, a1, a2, _, _, _⟩ := HJ2.out.a.at
              obtain ⟨b0, b1, b2, _, _, _⟩ := HJ2.out.b.at
              obtain ⟨c0, c1, c2, c3, c4, c5⟩ := HJ2.out.c.at
              go_wp2
              have hr := HJ2.out.ret E.out
              exact ret_pool (p := 8) (u := 9) rfl rfl rfl hr.1 rfl hr.2
          · have HE3 := Lib.hid (HE2.out.trans (if_neg (by omega)))
            rw [Int.toNat_natCast] at HE3
            clear HE2
            have hS := selJ_err (na := P) (nb := Q) (xs := xs) (ys := ys) (acc := []) (ds := ws.take N) (hs := hs.take N)
            obtain ⟨⟨acc, er⟩, hSS⟩ : ∃ S, selJ P Q xs ys [] (ws.take N) (hs.take N) = S := ⟨_, rfl⟩
            rw [hSS] at hS HE3
            have HS := Lib.hid hSS
            clear hSS
            rcases (show ((R : Int) ≤ M ∧ N = R) ∨ ((M : Int) < R ∧ N = M) by omega) with ⟨hrm, rfl⟩ | ⟨hrm, rfl⟩
            · skip
              go_enter Try.func22, Try.ntmps22
              go_wp2_with fail
              refine (RA.out _).mono ?_
              rintro e w1 ⟨rfl, hb1⟩
              have HJ1 := Lib.hid (HJ0.out.later hb1)
              clear hb1 HJ0
              obtain ⟨b0, b1, b2, _, _, _⟩ := HJ1.out.b.at
              go_wp2_with fail
              refine (RB.out _).mono ?_
              rintro e w2 ⟨rfl, hb2⟩
              have HJ2 := Lib.hid (HJ1.out.later hb2)
              clear hb2 HJ1 b0 b1 b2
              obtain ⟨a0, a1, a2, _, _, _⟩ := HJ2.out.a.at
              obtain ⟨b0, b1, b2, _, _, _⟩ := HJ2.out.b.at
              obtain ⟨c0, c1, c2, c3, c4, c5⟩ := HJ2.out.c.at
              have CA : Hid (∀ wx, JB w N P (.slice A xs.length ka) N Q (.slice B ys.length kb) wx → Calls Try.prog 35 #[pv N P (.slice A xs.length ka)] wx fun e w' => ∃ v, e = .returned (sv P v) ∧ OI w' wx.heap.size v xs ∧ JB w N P (.slice A xs.length ka) N Q (.slice B ys.length kb) w' ∧ Below wx.heap.size wx w') := fun wx hx => (whole_any _ _ A ka xs wx (HA.out.later hx.bl) xl).mono fun e w' ⟨v, h1, h2, h3⟩ => ⟨v, h1, h2, hx.later h3, h3⟩
              have CB : Hid (∀ wx, JB w N P (.slice A xs.length ka) N Q (.slice B ys.length kb) wx → Calls Try.prog 35 #[pv N Q (.slice B ys.length kb)] wx fun e w' => ∃ v, e = .returned (sv Q v) ∧ OI w' wx.heap.size v ys ∧ JB w N P (.slice A xs.length ka) N Q (.slice B ys.length kb) w' ∧ Below wx.heap.size wx w') := fun wx hx => (whole_any _ _ B kb ys wx (HB.out.later hx.bl) yl).mono fun e w' ⟨v, h1, h2, h3⟩ => ⟨v, h1, h2, hx.later h3, h3⟩
              have HJd : Hid (JB w N P (.slice A xs.length ka) N Q (.slice B ys.length kb) w2.drew) := HJ2.out.later (Below.refl _ w2).drew
              have hlw : (ws.take N).length = N := by rw [List.length_take]; omega
              have hlh : (hs.take N).length = N := by rw [List.length_take]; omega
              have CD : Hid (∀ wx va vb, Below w2.drew.heap.size w2.drew wx → OI wx w2.drew.heap.size va xs → OI wx w2.drew.heap.size vb ys → apartV va vb → Calls Try.prog 34 #[sv2 P va Q vb, .slice W N wc, .slice H N hc] wx (DrPost w2.drew (acc, er))) := by
                intro wx va vb h1 h2 h3 h4
                have hd := draw_any P Q va vb xs ys W H wc hc (ws.take N) (hs.take N) w2.drew wx ((HW.out.later HJd.out.bl).take hs1) ((HH.out.later HJd.out.bl).take hs2) (by rw [hlw, hlh]) (by omega) h1 h2 h3 h4 (by omega) (by omega) (by omega) (by omega) xl yl
                rw [hlw, hlh, HS.out] at hd
                exact hd
              unfold pv sv at CA CB
              unfold sv2 at CD
              clear hlw hlh
              have i0 : (0 : Int) ≤ (N : Int) := by omega
              have i1 : (N : Int) ≤ (wc : Int) := by omega
              have i2 : (N : Int) ≤ (hc : Int) := by omega
              have HK : Hid (∀ {va vb : Value} {wa wb : World}, Below w2.drew.heap.size w2.drew wa → OI wa w2.drew.heap.size va xs → Below wa.heap.size wa wb → OI wb wa.heap.size vb ys → Below w2.drew.heap.size w2.drew wb ∧ OI wb w2.drew.heap.size va xs ∧ OI wb w2.drew.heap.size vb ys ∧ apartV va vb) := fun h1 h2 h3 h4 => ⟨h1.trans (h3.mono h1.size), h2.later h3, h4.lower h1.size, fun g e1 e2 => by have k1 := (World.ownsRow.lt h2 g e1).2; have k2 := (World.ownsRow.lt h4 g e2).1; omega⟩
              have HK2 : Hid (∀ {va vb : Value} {wa wb : World}, Below w2.drew.heap.size w2.drew wb → OI wb w2.drew.heap.size vb ys → Below wb.heap.size wb wa → OI wa wb.heap.size va xs → Below w2.drew.heap.size w2.drew wa ∧ OI wa w2.drew.heap.size va xs ∧ OI wa w2.drew.heap.size vb ys ∧ apartV va vb) := fun h1 h2 h3 h4 => ⟨h1.trans (h3.mono h1.size), h4.lower h1.size, h2.later h3, fun g e1 e2 => by have k1 := (World.ownsRow.lt h2 g e2).2; have k2 := (World.ownsRow.lt h4 g e1).1; omega⟩
              go_wp2_with fail
              go_region_held3 (fun w' => (w'.cell? ⟨w.heap.size, 0, none⟩ = some (.int .i64 N) ∧ w'.cell? ⟨w.heap.size, 1, none⟩ = some (.int .i64 P) ∧ w'.cell? ⟨w.heap.size, 2, none⟩ = some (.slice A xs.length ka)) ∧ w'.cell? ⟨w.heap.size + 1, 0, none⟩ = some (.int .i64 N) ∧ w'.cell? ⟨w.heap.size + 1, 1, none⟩ = some (.int .i64 Q) ∧ w'.cell? ⟨w.heap.size + 1, 2, none⟩ = some (.slice B ys.length kb)) (go_keep)
                (first
                  | (go_at_call 35; refine (CA.out _ (by first | exact HJd.out | exact HJb.out)).mono ?_; rintro e w4 ⟨v4, rfl, hO4, hJ4, hb4⟩; obtain ⟨R4, c4, rfl⟩ := hO4.shape; obtain ⟨ta0, ta1, ta2, _⟩ := hJ4.a.at; obtain ⟨tb0, tb1, tb2, _⟩ := hJ4.b.at; have HO4 := Lib.hid hO4; have HJa := Lib.hid hJ4; have HB4 := Lib.hid hb4; clear hO4 hJ4 hb4)
                  | (go_at_call 35; refine (CB.out _ (by first | exact HJd.out | exact HJa.out)).mono ?_; rintro e w5 ⟨v5, rfl, hO5, hJ5, hb5⟩; obtain ⟨R5, c5, rfl⟩ := hO5.shape; obtain ⟨sa0, sa1, sa2, _⟩ := hJ5.a.at; obtain ⟨sb0, sb1, sb2, _⟩ := hJ5.b.at; have HO5 := Lib.hid hO5; have HJb := Lib.hid hJ5; have HB5 := Lib.hid hb5; clear hO5 hJ5 hb5)
                  | (go_at_call 34; (first | (obtain ⟨k1, k2, k3, k4⟩ := HK.out HB4.out HO4.out HB5.out HO5.out; refine (CD.out _ _ _ k1 k2 k3 k4).mono ?_) | (obtain ⟨k1, k2, k3, k4⟩ := HK2.out HB5.out HO5.out HB4.out HO4.out; refine (CD.out _ _ _ k1 k2 k3 k4).mono ?_)); rintro e w6 ⟨v6, rfl, hO6, hb6⟩; obtain ⟨R6, c6, rfl⟩ := hO6.shape; have hJ6 := HJd.out.later hb6; obtain ⟨xa0, xa1, xa2, _⟩ := hJ6.a.at; obtain ⟨xb0, xb1, xb2, _⟩ := hJ6.b.at; obtain ⟨d0, d1, d2, d3, d4, d5⟩ := hJ6.c.at; have HO6 := Lib.hid hO6; have HJ6 := Lib.hid hJ6; clear hO6 hJ6 hb6 k1 k2 k3 k4))
              all_goals
                clear HK HK2 CA CB CD
                rcases hS with h0 | h2
                · have h0 : er = 0 := h0
                  subst h0
                  have E : Hid (poolsR N P xs N Q ys ws hs = ((((N : Nat) : Int), ((M : Nat) : Int), acc), 0)) := HE3.out
                  go_wp2
                  have hP := HJ6.out.c.store N M (.slice R6 acc.length c6)
                  have hs6 : w.heap.size + 1 + 1 < w2.drew.heap.size := HJd.out.c.lt
                  refine ret_pool (p := 8) (u := 9) rfl rfl rfl hP rfl (ppost_ok E.out ?_ (below_store HJ6.out.bl (by omega) _ _ _))
                  exact (((HO6.out.apartC hs6 0 _).apartC hs6 1 _).apartC hs6 2 _).lower (by have := HJd.out.bl.size; omega)
                · injection h2 with h2 h3
                  subst h2
                  subst h3
                  have E : Hid (poolsR N P xs N Q ys ws hs = (pz, 2)) := HE3.out
                  go_wp2
                  have hr := HJ6.out.ret E.out
                  exact ret_pool (p := 8) (u := 9) rfl rfl rfl hr.1 rfl hr.2
            · skip
              go_enter Try.func22, Try.ntmps22
              go_wp2_with fail
              refine (RA.out _).mono ?_
              rintro e w1 ⟨rfl, hb1⟩
              have HJ1 := Lib.hid (HJ0.out.later hb1)
              clear hb1 HJ0
              obtain ⟨b0, b1, b2, _, _, _⟩ := HJ1.out.b.at
              go_wp2_with fail
              refine (RB.out _).mono ?_
              rintro e w2 ⟨rfl, hb2⟩
              have HJ2 := Lib.hid (HJ1.out.later hb2)
              clear hb2 HJ1 b0 b1 b2
              obtain ⟨a0, a1, a2, _, _, _⟩ := HJ2.out.a.at
              obtain ⟨b0, b1, b2, _, _, _⟩ := HJ2.out.b.at
              obtain ⟨c0, c1, c2, c3, c4, c5⟩ := HJ2.out.c.at
              have CA : Hid (∀ wx, JB w R P (.slice A xs.length ka) R Q (.slice B ys.length kb) wx → Calls Try.prog 35 #[pv R P (.slice A xs.length ka)] wx fun e w' => ∃ v, e = .returned (sv P v) ∧ OI w' wx.heap.size v xs ∧ JB w R P (.slice A xs.length ka) R Q (.slice B ys.length kb) w' ∧ Below wx.heap.size wx w') := fun wx hx => (whole_any _ _ A ka xs wx (HA.out.later hx.bl) xl).mono fun e w' ⟨v, h1, h2, h3⟩ => ⟨v, h1, h2, hx.later h3, h3⟩
              have CB : Hid (∀ wx, JB w R P (.slice A xs.length ka) R Q (.slice B ys.length kb) wx → Calls Try.prog 35 #[pv R Q (.slice B ys.length kb)] wx fun e w' => ∃ v, e = .returned (sv Q v) ∧ OI w' wx.heap.size v ys ∧ JB w R P (.slice A xs.length ka) R Q (.slice B ys.length kb) w' ∧ Below wx.heap.size wx w') := fun wx hx => (whole_any _ _ B kb ys wx (HB.out.later hx.bl) yl).mono fun e w' ⟨v, h1, h2, h3⟩ => ⟨v, h1, h2, hx.later h3, h3⟩
              have HJd : Hid (JB w R P (.slice A xs.length ka) R Q (.slice B ys.length kb) w2.drew) := HJ2.out.later (Below.refl _ w2).drew
              have hlw : (ws.take N).length = N := by rw [List.length_take]; omega
              have hlh : (hs.take N).length = N := by rw [List.length_take]; omega
              have CD : Hid (∀ wx va vb, Below w2.drew.heap.size w2.drew wx → OI wx w2.drew.heap.size va xs → OI wx w2.drew.heap.size vb ys → apartV va vb → Calls Try.prog 34 #[sv2 P va Q vb, .slice W N wc, .slice H N hc] wx (DrPost w2.drew (acc, er))) := by
                intro wx va vb h1 h2 h3 h4
                have hd := draw_any P Q va vb xs ys W H wc hc (ws.take N) (hs.take N) w2.drew wx ((HW.out.later HJd.out.bl).take hs1) ((HH.out.later HJd.out.bl).take hs2) (by rw [hlw, hlh]) (by omega) h1 h2 h3 h4 (by omega) (by omega) (by omega) (by omega) xl yl
                rw [hlw, hlh, HS.out] at hd
                exact hd
              unfold pv sv at CA CB
              unfold sv2 at CD
              clear hlw hlh
              have i0 : (0 : Int) ≤ (N : Int) := by omega
              have i1 : (N : Int) ≤ (wc : Int) := by omega
              have i2 : (N : Int) ≤ (hc : Int) := by omega
              have HK : Hid (∀ {va vb : Value} {wa wb : World}, Below w2.drew.heap.size w2.drew wa → OI wa w2.drew.heap.size va xs → Below wa.heap.size wa wb → OI wb wa.heap.size vb ys → Below w2.drew.heap.size w2.drew wb ∧ OI wb w2.drew.heap.size va xs ∧ OI wb w2.drew.heap.size vb ys ∧ apartV va vb) := fun h1 h2 h3 h4 => ⟨h1.trans (h3.mono h1.size), h2.later h3, h4.lower h1.size, fun g e1 e2 => by have k1 := (World.ownsRow.lt h2 g e1).2; have k2 := (World.ownsRow.lt h4 g e2).1; omega⟩
              have HK2 : Hid (∀ {va vb : Value} {wa wb : World}, Below w2.drew.heap.size w2.drew wb → OI wb w2.drew.heap.size vb ys → Below wb.heap.size wb wa → OI wa wb.heap.size va xs → Below w2.drew.heap.size w2.drew wa ∧ OI wa w2.drew.heap.size va xs ∧ OI wa w2.drew.heap.size vb ys ∧ apartV va vb) := fun h1 h2 h3 h4 => ⟨h1.trans (h3.mono h1.size), h4.lower h1.size, h2.later h3, fun g e1 e2 => by have k1 := (World.ownsRow.lt h2 g e2).2; have k2 := (World.ownsRow.lt h4 g e1).1; omega⟩
              go_wp2_with fail
              go_region_held3 (fun w' => (w'.cell? ⟨w.heap.size, 0, none⟩ = some (.int .i64 R) ∧ w'.cell? ⟨w.heap.size, 1, none⟩ = some (.int .i64 P) ∧ w'.cell? ⟨w.heap.size, 2, none⟩ = some (.slice A xs.length ka)) ∧ w'.cell? ⟨w.heap.size + 1, 0, none⟩ = some (.int .i64 R) ∧ w'.cell? ⟨w.heap.size + 1, 1, none⟩ = some (.int .i64 Q) ∧ w'.cell? ⟨w.heap.size + 1, 2, none⟩ = some (.slice B ys.length kb)) (go_keep)
                (first
                  | (go_at_call 35; refine (CA.out _ (by first | exact HJd.out | exact HJb.out)).mono ?_; rintro e w4 ⟨v4, rfl, hO4, hJ4, hb4⟩; obtain ⟨R4, c4, rfl⟩ := hO4.shape; obtain ⟨ta0, ta1, ta2, _⟩ := hJ4.a.at; obtain ⟨tb0, tb1, tb2, _⟩ := hJ4.b.at; have HO4 := Lib.hid hO4; have HJa := Lib.hid hJ4; have HB4 := Lib.hid hb4; clear hO4 hJ4 hb4)
                  | (go_at_call 35; refine (CB.out _ (by first | exact HJd.out | exact HJa.out)).mono ?_; rintro e w5 ⟨v5, rfl, hO5, hJ5, hb5⟩; obtain ⟨R5, c5, rfl⟩ := hO5.shape; obtain ⟨sa0, sa1, sa2, _⟩ := hJ5.a.at; obtain ⟨sb0, sb1, sb2, _⟩ := hJ5.b.at; have HO5 := Lib.hid hO5; have HJb := Lib.hid hJ5; have HB5 := Lib.hid hb5; clear hO5 hJ5 hb5)
                  | (go_at_call 34; (first | (obtain ⟨k1, k2, k3, k4⟩ := HK.out HB4.out HO4.out HB5.out HO5.out; refine (CD.out _ _ _ k1 k2 k3 k4).mono ?_) | (obtain ⟨k1, k2, k3, k4⟩ := HK2.out HB5.out HO5.out HB4.out HO4.out; refine (CD.out _ _ _ k1 k2 k3 k4).mono ?_)); rintro e w6 ⟨v6, rfl, hO6, hb6⟩; obtain ⟨R6, c6, rfl⟩ := hO6.shape; have hJ6 := HJd.out.later hb6; obtain ⟨xa0, xa1, xa2, _⟩ := hJ6.a.at; obtain ⟨xb0, xb1, xb2, _⟩ := hJ6.b.at; obtain ⟨d0, d1, d2, d3, d4, d5⟩ := hJ6.c.at; have HO6 := Lib.hid hO6; have HJ6 := Lib.hid hJ6; clear hO6 hJ6 hb6 k1 k2 k3 k4))
              all_goals
                clear HK HK2 CA CB CD
                rcases hS with h0 | h2
                · have h0 : er = 0 := h0
                  subst h0
                  have E : Hid (poolsR R P xs R Q ys ws hs = ((((R : Nat) : Int), ((N : Nat) : Int), acc), 0)) := HE3.out
                  go_wp2
                  have hP := HJ6.out.c.store R N (.slice R6 acc.length c6)
                  have hs6 : w.heap.size + 1 + 1 < w2.drew.heap.size := HJd.out.c.lt
                  refine ret_pool (p := 8) (u := 9) rfl rfl rfl hP rfl (ppost_ok E.out ?_ (below_store HJ6.out.bl (by omega) _ _ _))
                  exact (((HO6.out.apartC hs6 0 _).apartC hs6 1 _).apartC hs6 2 _).lower (by have := HJd.out.bl.size; omega)
                · injection h2 with h2 h3
                  subst h2
                  subst h3
                  have E : Hid (poolsR R P xs R Q ys ws hs = (pz, 2)) := HE3.out
                  go_wp2
                  have hr := HJ6.out.ret E.out
                  exact ret_pool (p := 8) (u := 9) rfl rfl rfl hr.1 rfl hr.2
      · have E := Lib.hid (poolsR_form (ws := ws) (hs := hs) (fun h : JR ra ca xs rb cb ys => er h.2.2))
        have tne : (ra != rb) = true := by simp [er]
        clear pa pb
        go_enter Try.func22, Try.ntmps22
        go_wp2_with fail
        refine (RA.out _).mono ?_
        rintro e w1 ⟨rfl, hb1⟩
        have HJ1 := Lib.hid (HJ0.out.later hb1)
        clear hb1 HJ0
        obtain ⟨b0, b1, b2, _, _, _⟩ := HJ1.out.b.at
        go_wp2_with fail
        refine (RB.out _).mono ?_
        rintro e w2 ⟨rfl, hb2⟩
        have HJ2 := Lib.hid (HJ1.out.later hb2)
        clear hb2 HJ1 b0 b1 b2
        obtain ⟨a0, a1, a2, _, _, _⟩ := HJ2.out.a.at
        obtain ⟨b0, b1, b2, _, _, _⟩ := HJ2.out.b.at
        obtain ⟨c0, c1, c2, c3, c4, c5⟩ := HJ2.out.c.at
        go_wp2
        have hr := HJ2.out.ret E.out
        exact ret_pool (p := 8) (u := 9) rfl rfl rfl hr.1 rfl hr.2
    · have eb : prB rb cb ys = false := decide_eq_false pb
      rw [eb] at RB
      have E := Lib.hid (poolsR_form (ws := ws) (hs := hs) (fun h : JR ra ca xs rb cb ys => pb h.2.1))
      clear pa pb eb
      go_enter Try.func22, Try.ntmps22
      go_wp2_with fail
      refine (RA.out _).mono ?_
      rintro e w1 ⟨rfl, hb1⟩
      have HJ1 := Lib.hid (HJ0.out.later hb1)
      clear hb1 HJ0
      obtain ⟨b0, b1, b2, _, _, _⟩ := HJ1.out.b.at
      go_wp2_with fail
      refine (RB.out _).mono ?_
      rintro e w2 ⟨rfl, hb2⟩
      have HJ2 := Lib.hid (HJ1.out.later hb2)
      clear hb2 HJ1 b0 b1 b2
      obtain ⟨a0, a1, a2, _, _, _⟩ := HJ2.out.a.at
      obtain ⟨b0, b1, b2, _, _, _⟩ := HJ2.out.b.at
      obtain ⟨c0, c1, c2, c3, c4, c5⟩ := HJ2.out.c.at
      go_wp2
      have hr := HJ2.out.ret E.out
      exact ret_pool (p := 8) (u := 9) rfl rfl rfl hr.1 rfl hr.2
  · have ea : prB ra ca xs = false := decide_eq_false pa
    rw [ea] at RA
    have E := Lib.hid (poolsR_form (ws := ws) (hs := hs) (fun h : JR ra ca xs rb cb ys => pa h.1))
    clear pa ea
    go_enter Try.func22, Try.ntmps22
    go_wp2_with fail
    refine (RA.out _).mono ?_
    rintro e w1 ⟨rfl, hb1⟩
    have HJ1 := Lib.hid (HJ0.out.later hb1)
    clear hb1 HJ0
    obtain ⟨c0, c1, c2, c3, c4, c5⟩ := HJ1.out.c.at
    go_wp2
    have hr := HJ1.out.ret E.out
    exact ret_pool (p := 8) (u := 9) rfl rfl rfl hr.1 rfl hr.2
end Go.Proofs.Ytjhcbjpbmbjgoaa
