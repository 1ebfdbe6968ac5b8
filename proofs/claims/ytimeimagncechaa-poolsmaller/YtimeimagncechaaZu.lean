/- The closure of PoolSmaller. -/
import Derived.Test.YtimeimagncechaaZf
import Derived.Test.YtimeimagncechaaZr
import Derived.Test.YtimeimagncechaaMt6
import Derived.Deep.RegionHeld3
namespace Go.Proofs.Ytimeimagncechaa
open Go.RowKit Go.Deep Go.Maps

theorem Bs.ne {T T' g g' : Nat} {w : World} {vs vs' : List Value} (h : Bs T w g vs) (h' : Bs T' w g' vs') (hT : T ≠ T') : g ≠ g' := by
  rintro rfl
  unfold Bs at h h'
  rw [h] at h'
  simp at h'
  exact hT h'.2
/-- What the closure reads and writes. -/
structure SmI (less outs : Nat) (bs : List Nat) (M f o l b t : Nat) (V : Option Addr) (cv : Nat) (S : List Nat) (w : World) : Prop where
  m : CntM w M S
  tt : Bs 38 w t [.map (some M)]
  ff : Bs 4 w f [.bool true]
  oo : Bs 3 w o [.int .i64 outs]
  ll : Bs 3 w l [.int .i64 less]
  bb : Bs 22 w b [.slice V bs.length cv]
  vv : OI w 0 (.slice V bs.length cv) (inN bs)
def PS (M f : Nat) (k : Nat) : Prop := k = M ∨ k = f
theorem SmI.step {less outs : Nat} {bs : List Nat} {M f o l b t : Nat} {V : Option Addr} {cv : Nat} {S S' : List Nat} {w w' : World} (h : SmI less outs bs M f o l b t V cv S w) (hk : Kp (PS M f) w w') (hm : CntM w' M S') (hf : Bs 4 w' f [.bool true]) : SmI less outs bs M f o l b t V cv S' w' := by
  have n1 : ∀ {T g : Nat} {vs : List Value}, Bs T w g vs → T ≠ 4 → ¬ PS M f g := fun hb hT hp => by
    rcases hp with e | e
    · exact h.m.ne hb e
    · exact hb.ne h.ff hT e
  refine ⟨hm, h.tt.kp hk (n1 h.tt (by decide)), hf, h.oo.kp hk (n1 h.oo (by decide)), h.ll.kp hk (n1 h.ll (by decide)), h.bb.kp hk (n1 h.bb (by decide)), ?_⟩
  refine ⟨h.vv.1, ?_⟩
  rcases h.vv.2 with e | ⟨g, cap, cur, hv, hB, hg, h1, h2, h3, h4⟩
  · exact .inl e
  · have hb : Bs 3 w g cur.toList := by simpa [Bs] using hg
    exact .inr ⟨g, cap, cur, hv, hB, (hk.block g (lt_of_block hg) (n1 hb (by decide))).trans hg, h1, h2, h3, h4⟩
theorem SmI.later {less outs : Nat} {bs : List Nat} {M f o l b t : Nat} {V : Option Addr} {cv : Nat} {S : List Nat} {w w' : World} (h : SmI less outs bs M f o l b t V cv S w) (hb : Below w.heap.size w w') : SmI less outs bs M f o l b t V cv S w' :=
  h.step (Kp.of_below hb) (h.m.later hb) (h.ff.below hb (Bs.lt h.ff))
theorem cell1 {T g : Nat} {w : World} {v : Value} (h : Bs T w g [v]) : w.cell? ⟨g, 0, none⟩ = some v := by
  have := h.cell (j := 0) (by simp)
  simpa using this

theorem IP.kpS {M f : Nat} {S : List Nat} {w w' : World} {A : Option Addr} {ca : Nat} {xs : List Int} (h : IP w A ca xs) (hm : CntM w M S) (hf : Bs 4 w f [.bool true]) (hk : Kp (PS M f) w w') : IP w' A ca xs := by
  refine ⟨?_, h.le, h.cap, h.none⟩
  intro h0
  have hl : 0 < xs.length := by rwa [ivs_len] at h0
  obtain ⟨b, off, rfl, hb, hc⟩ := h.il.at hl
  have hn : ¬ PS M f b := by
    rintro (rfl | rfl)
    · obtain ⟨D, ⟨es, clock, h1, _⟩, _⟩ := hm
      have := hc 0 hl
      simp [World.cell?, h1] at this
    · have := hc 0 hl
      unfold Bs at hf
      simp only [World.cell?, hf] at this
      rw [List.getElem?_toArray] at this
      cases off with
      | zero => simp at this
      | succ m => simp at this
  exact ⟨b, off, rfl, Nat.lt_of_lt_of_le hb hk.size, fun j hj => by
    rw [World.cell?_of_block (hk.block b hb hn), hc j (by rwa [ivs_len] at hj), ivs_at (by rwa [ivs_len] at hj)]⟩
theorem below_zero (w : World) : Below w.heap.size w (w.alloc (.cells #[.int .i64 0, .int .i64 0, .slice none 0 0] 24)) := (Below.refl _ _).alloc (Nat.le_refl _) _
theorem PB.cells {w : World} {g : Nat} {r c : Int} {v : Value} (h : PB w g r c v) : w.cell? ⟨g, 0, none⟩ = some (.int .i64 r) ∧ w.cell? ⟨g, 1, none⟩ = some (.int .i64 c) ∧ w.cell? ⟨g, 2, none⟩ = some v := ⟨h.at.1, h.at.2.1, h.at.2.2.1⟩
theorem erN_len : ∀ (ds xs : List Nat), (erN xs ds).length ≤ xs.length
  | [], _ => Nat.le_refl _
  | d :: ds, xs => Nat.le_trans (erN_len ds _) (List.length_eraseIdx_le xs d)
def MxPost (x : Nat) (bs : List Nat) (w : World) (e : Ending) (w' : World) : Prop := ∃ v, e = .returned v ∧ OI w' w.heap.size v (inN (mixN x bs)) ∧ Below w.heap.size w w'
theorem q_store {a w : World} {g B : Nat} {v : Value} {ys : List Int} (hN : PB w g 0 0 (.slice none 0 0)) (hg : a.heap.size ≤ g) (hB : Below a.heap.size a w) (hO : OI w B v ys) (r c : Int) :
    PB (((w.setCell ⟨g, 0, none⟩ (.int .i64 r)).setCell ⟨g, 1, none⟩ (.int .i64 c)).setCell ⟨g, 2, none⟩ v) g r c v ∧ Below a.heap.size a (((w.setCell ⟨g, 0, none⟩ (.int .i64 r)).setCell ⟨g, 1, none⟩ (.int .i64 c)).setCell ⟨g, 2, none⟩ v) ∧ OI (((w.setCell ⟨g, 0, none⟩ (.int .i64 r)).setCell ⟨g, 1, none⟩ (.int .i64 c)).setCell ⟨g, 2, none⟩ v) B v ys :=
  ⟨hN.store r c v, below_store hB hg _ _ _, hO.store hN r c v⟩
theorem q_new {a w : World} {B : Nat} {v : Value} {ys : List Int} (hB : Below a.heap.size a w) (hO : OI w B v ys) (r c : Int) :
    PB (w.alloc (.cells #[.int .i64 r, .int .i64 c, v] 24)) w.heap.size r c v ∧ Below a.heap.size a (w.alloc (.cells #[.int .i64 r, .int .i64 c, v] 24)) ∧ OI (w.alloc (.cells #[.int .i64 r, .int .i64 c, v] 24)) B v ys :=
  ⟨PB.new w r c v, hB.alloc hB.size _, hO.alloc _⟩

set_option maxRecDepth 100000 in
set_option maxHeartbeats 8000000 in
theorem smallLook_any (room less n k : Nat) (h0 : 1 ≤ less) (h1 : less < room) (h2 : room ≤ n) (h3 : n ≤ 5) (A : Option Addr) (ca : Nat) (M f o l b t : Nat) (V : Option Addr) (cv : Nat) (S : List Nat) (w : World)
    (hI : SmI less (outsN less (room - less)) (dnN less (room - less)) M f o l b t V cv S w) (hS : S.length + outsN less (room - less) < 100000) (hx : IP w A ca (inN (resN room n k))) :
    Calls Try.prog 23 #[.agg #[.int .i64 room, .int .i64 n, .slice A (inN (resN room n k)).length ca], .pointer (some ⟨o, 0, none⟩), .pointer (some ⟨l, 0, none⟩), .pointer (some ⟨b, 0, none⟩), .pointer (some ⟨f, 0, none⟩), .pointer (some ⟨t, 0, none⟩)] w
      fun e w' => e = .returned (.tuple #[]) ∧ SmI less (outsN less (room - less)) (dnN less (room - less)) M f o l b t V cv (inS (resN room n k) (dnN less (room - less)) S (outsN less (room - less))) w' ∧ Kp (PS M f) w w' := by
  have ho := outs_le room (by omega) less (by omega)
  have hlen := resN_full (x := k) h2
  have hbl := dnN_len less (room - less)
  have HLS : Hid (∀ x, lessR room n (inN (resN room n k)) less (inN (mixN x (dnN less (room - less)))) = (((less : Int), (n : Int), inN (erN (resN room n k) (mixN x (dnN less (room - less))))), 0)) := fun x => less_inN h0 (by omega) h2 (by omega)
  have HPOS : Hid (∀ d ∈ dnN less (room - less), 0 < d ∧ d ≤ 1000) := fun d hd => by have := dnN_pos less (room - less) d hd; omega
  have HMEM : Hid (∀ x y, y ∈ erN (resN room n k) (mixN x (dnN less (room - less))) → y < 6) := fun x y hy => by have := mem_resN (mem_erN _ _ hy); omega
  have HYL : Hid (∀ x, (erN (resN room n k) (mixN x (dnN less (room - less)))).length ≤ 400) := fun x => Nat.le_trans (erN_len _ _) (by omega)
  have HIN : Hid (∀ x, inS (resN room n k) (dnN less (room - less)) S (x + 1) = setN (erN (resN room n k) (mixN x (dnN less (room - less)))) :: inS (resN room n k) (dnN less (room - less)) S x) := fun x => rfl
  have HIL : Hid (∀ x, (inS (resN room n k) (dnN less (room - less)) S x).length = S.length + x) := fun x => inS_len _ _ _ x
  have HI0 : Hid (inS (resN room n k) (dnN less (room - less)) S 0 = S) := rfl
  generalize outsN less (room - less) = outs at *
  have hbl2 : (dnN less (room - less)).length ≤ 1000 := by omega
  have hxl : (resN room n k).length ≤ 400 := by omega
  generalize inS (resN room n k) (dnN less (room - less)) S = II at *
  generalize dnN less (room - less) = bs at *
  generalize resN room n k = xs at *
  have b1 : Below w.heap.size w (w.alloc (.cells #[.int .i64 room, .int .i64 n, .slice A (inN xs).length ca] 24)) := (Below.refl _ _).alloc (Nat.le_refl _) _
  have HX := Lib.hid (hx.later b1)
  have HI := Lib.hid (hI.later b1)
  have HP := Lib.hid (PB.new w room n (.slice A (inN xs).length ca))
  have HKw : Hid (Kp (PS M f) w (w.alloc (.cells #[.int .i64 room, .int .i64 n, .slice A (inN xs).length ca] 24))) := Kp.of_below b1
  have co := cell1 (hI.later b1).oo
  have HS := Lib.hid hS
  have HBL := Lib.hid hbl2
  clear hx hI b1 hbl hlen hbl2 hxl
  go_enter Try.func23, Try.ntmps23
  go_wp2_with fail
  generalize w.alloc (.cells #[.int .i64 room, .int .i64 n, .slice A (inN xs).length ca] 24) = wb at *
  go_loopw [14] (fun iv wr => ∃ x : Nat, x ≤ outs ∧ iv = .int .i64 x ∧ SmI less outs bs M f o l b t V cv (II x) wr ∧ PB wr w.heap.size room n (.slice A (inN xs).length ca) ∧ IP wr A ca (inN xs) ∧ Kp (PS M f) w wr) (fun iv _ => outs - (intOf iv).toNat)
  case atStart => exact ⟨0, by omega, rfl, by rw [HI0.out]; exact HI.out, HP.out, HX.out, HKw.out⟩
  case round =>
    obtain ⟨x, hxo, rfl, hI, hP, hX, hK⟩ := hrel
    clear HI HP HX HKw co
    by_cases hlt : x < outs
    · have HI := Lib.hid hI
      have HP := Lib.hid hP
      have HX := Lib.hid hX
      have HK := Lib.hid hK
      have HQ : Hid (∀ w', Below wr.heap.size wr w' → (w'.cell? ⟨w.heap.size, 0, none⟩ = some (.int .i64 (room : Int)) ∧ w'.cell? ⟨w.heap.size, 1, none⟩ = some (.int .i64 (n : Int)) ∧ w'.cell? ⟨w.heap.size, 2, none⟩ = some (.slice A (inN xs).length ca)) ∧ w'.cell? ⟨l, 0, none⟩ = some (.int .i64 (less : Int)) ∧ w'.cell? ⟨b, 0, none⟩ = some (.slice V bs.length cv)) := fun w' hb => ⟨(hP.later hb).cells, cell1 (hI.later hb).ll, cell1 (hI.later hb).bb⟩
      obtain ⟨⟨a0, a1, a2⟩, a3, a4⟩ := HQ.out _ (Below.refl _ _)
      have HXw : Hid (∀ w', Below wr.heap.size wr w' → IP w' A ca (inN xs)) := fun w' hb => hX.later hb
      have CM : Hid (∀ w', Below wr.heap.size wr w' → Calls Try.prog 24 #[.int .i64 (x : Int), .slice V bs.length cv] w' (MxPost x bs w')) := fun w' hb => by
        obtain ⟨R, cr, e, hV⟩ := (hI.later hb).vv.ip
        simp only [Value.slice.injEq] at e
        obtain ⟨rfl, _, rfl⟩ := e
        exact mixed_any x V cv bs w' hV HPOS.out (by omega) HBL.out
      have CS : Hid (∀ w' D cd, IP w' A ca (inN xs) → IP w' D cd (inN (mixN x bs)) → Calls Try.prog 18 #[.agg #[.int .i64 (room : Int), .int .i64 (n : Int), .slice A (inN xs).length ca], .int .i64 (less : Int), .slice D (inN (mixN x bs)).length cd] w' (PPost w'.heap.size w' (((less : Int), (n : Int), inN (erN xs (mixN x bs))), 0))) := fun w' D cd h1 h2 => by
        have := smaller_any room n A ca (inN xs) less D cd (inN (mixN x bs)) w' h1 h2
        rwa [HLS.out x] at this
      have HY := Lib.hid (HMEM.out x)
      have hyl := HYL.out x
      have HIx := Lib.hid (HIN.out x)
      have HILx := Lib.hid (HIL.out x)
      generalize erN xs (mixN x bs) = ys at *
      have hs0 : wr.heap.size ≤ wr.heap.size := Nat.le_refl _
      have HBa : Hid (Below wr.heap.size wr wr.drew) := (Below.refl _ _).drew
      have HBb : Hid (Below wr.heap.size wr (wr.alloc (.cells #[.int .i64 0, .int .i64 0, .slice none 0 0] 24)).drew) := ((Below.refl _ _).alloc (Nat.le_refl _) _).drew
      have HNb : Hid (PB (wr.alloc (.cells #[.int .i64 0, .int .i64 0, .slice none 0 0] 24)).drew wr.heap.size 0 0 (.slice none 0 0)) := PB.new wr 0 0 (.slice none 0 0)
      have hx1 : x + 1 ≤ outs := hlt
      have hso : w.heap.size ≠ wr.heap.size := Nat.ne_of_lt (Bs.lt hP)
      have hlo : l ≠ wr.heap.size := Nat.ne_of_lt (Bs.lt hI.ll)
      have hbo : b ≠ wr.heap.size := Nat.ne_of_lt (Bs.lt hI.bb)
      clear hI hP hX hK HLS HMEM HIN HIL HYL
      go_wp2_with fail
      go_region_held3 (fun w' => (w'.cell? ⟨w.heap.size, 0, none⟩ = some (.int .i64 (room : Int)) ∧ w'.cell? ⟨w.heap.size, 1, none⟩ = some (.int .i64 (n : Int)) ∧ w'.cell? ⟨w.heap.size, 2, none⟩ = some (.slice A (inN xs).length ca)) ∧ w'.cell? ⟨l, 0, none⟩ = some (.int .i64 (less : Int)) ∧ w'.cell? ⟨b, 0, none⟩ = some (.slice V bs.length cv)) (first | go_keep | exact HQ.out _ (below_store HB3.out hs2 _ _ _) | exact HQ.out _ (below_store HB3.out (Nat.le_refl _) _ _ _) | exact HQ.out _ HB3.out | exact HQ.out _ HB2.out)
        (first
          | (go_at_call 24; refine (CM.out _ HBa.out).mono ?_; rintro e w2 ⟨v, rfl, hO, hb⟩; obtain ⟨V2, c2, rfl⟩ := hO.shape; obtain ⟨_, _, e2, hI2⟩ := hO.ip; cases e2; have hb := HBa.out.trans (hb.mono HBa.out.size); obtain ⟨⟨a0, a1, a2⟩, a3, a4⟩ := HQ.out _ hb; have HB2 := Lib.hid hb; have HI2 := Lib.hid hI2; have hs2 := hb.size; clear hO hb hI2)
          | (go_at_call 24; refine (CM.out _ HBb.out).mono ?_; rintro e w2 ⟨v, rfl, hO, hb⟩; obtain ⟨V2, c2, rfl⟩ := hO.shape; obtain ⟨_, _, e2, hI2⟩ := hO.ip; cases e2; have HN2 := Lib.hid (HNb.out.later hb); have hb := HBb.out.trans (hb.mono HBb.out.size); obtain ⟨⟨a0, a1, a2⟩, a3, a4⟩ := HQ.out _ hb; have HB2 := Lib.hid hb; have HI2 := Lib.hid hI2; have hs2 := hb.size; clear hO hb hI2)
          | (go_at_call 18; refine (CS.out _ _ _ (HXw.out _ HB2.out) HI2.out).mono ?_; rintro e w3 ⟨v, rfl, hO, hb⟩; obtain ⟨R3, c3, rfl⟩ := hO.shape; have HN3 := Lib.hid (HN2.out.later hb); have hgN := hs0; obtain ⟨m0, m1, m2, m3, m4, m5⟩ := HN3.out.at; have hb := HB2.out.trans (hb.mono HB2.out.size); obtain ⟨⟨a0, a1, a2⟩, a3, a4⟩ := HQ.out _ hb; have HB3 := Lib.hid hb; have HO3 := Lib.hid hO; have hs3 := hb.size; clear hO hb; unfold pv)
          | (go_at_call 18; refine (CS.out _ _ _ (HXw.out _ HB2.out) HI2.out).mono ?_; rintro e w3 ⟨v, rfl, hO, hb⟩; obtain ⟨R3, c3, rfl⟩ := hO.shape; have hb := HB2.out.trans (hb.mono HB2.out.size); obtain ⟨⟨a0, a1, a2⟩, a3, a4⟩ := HQ.out _ hb; have HB3 := Lib.hid hb; have HO3 := Lib.hid hO; have hs3 := hb.size; clear hO hb; unfold pv)
          | (go_at_call 18; have HBc := Lib.hid (HB2.out.trans ((below_zero w2).mono HB2.out.size)); refine (CS.out _ _ _ (HXw.out _ HBc.out) (HI2.out.later (below_zero w2))).mono ?_; rintro e w3 ⟨v, rfl, hO, hb⟩; obtain ⟨R3, c3, rfl⟩ := hO.shape; have HN3 := Lib.hid ((PB.new w2 0 0 (.slice none 0 0)).later hb); have hgM := hs2; obtain ⟨m0, m1, m2, m3, m4, m5⟩ := HN3.out.at; have hb := HBc.out.trans (hb.mono HBc.out.size); obtain ⟨⟨a0, a1, a2⟩, a3, a4⟩ := HQ.out _ hb; have HB3 := Lib.hid hb; have HO3 := Lib.hid hO; have hs3 := hb.size; clear hO hb; unfold pv))
      all_goals
        clear CM CS HQ HXw HBa HBb a0 a1 a2 a3 a4
        first
          | (have hQ := q_store HN3.out hgM HB3.out HO3.out (less : Int) (n : Int)
             generalize ((w3.setCell ⟨w2.heap.size, 0, none⟩ (.int .i64 (less : Int))).setCell ⟨w2.heap.size, 1, none⟩ (.int .i64 (n : Int))).setCell ⟨w2.heap.size, 2, none⟩ (.slice R3 (inN ys).length c3) = w4 at hQ ⊢
             obtain ⟨hQ1, hQ2, hQ3⟩ := hQ
             generalize w2.heap.size = g at hQ1 ⊢)
          | (have hQ := q_store HN3.out hgN HB3.out HO3.out (less : Int) (n : Int)
             generalize ((w3.setCell ⟨wr.heap.size, 0, none⟩ (.int .i64 (less : Int))).setCell ⟨wr.heap.size, 1, none⟩ (.int .i64 (n : Int))).setCell ⟨wr.heap.size, 2, none⟩ (.slice R3 (inN ys).length c3) = w4 at hQ ⊢
             obtain ⟨hQ1, hQ2, hQ3⟩ := hQ
             generalize wr.heap.size = g at hQ1 ⊢)
          | (have hQ := q_new HB3.out HO3.out (less : Int) (n : Int)
             generalize w3.alloc (.cells #[.int .i64 (less : Int), .int .i64 (n : Int), .slice R3 (inN ys).length c3] 24) = w4 at hQ ⊢
             obtain ⟨hQ1, hQ2, hQ3⟩ := hQ
             generalize w3.heap.size = g at hQ1 ⊢)
        have hI4 := HI.out.later hQ2
        obtain ⟨_, _, e4, hJ4⟩ := hQ3.ip
        cases e4
        have hgf : g ≠ f := Bs.ne hQ1 hI4.ff (by decide)
        have hMf : M ≠ f := fun e => hI4.m.ne hI4.ff e.symm
        have hK5 : Kp (PS M f) w4 (w4.setCell ⟨f, 0, none⟩ (.bool true)) := (Kp.refl _ _).setCell (.inl (.inr rfl)) _
        have hf5 : Bs 4 (w4.setCell ⟨f, 0, none⟩ (.bool true)) f [.bool true] := hI4.ff.set 0 (.bool true)
        have hI5 := hI4.step hK5 (hI4.m.setCell hMf _) hf5
        have hP5 := (HP.out.later hQ2).other (a := ⟨f, 0, none⟩) (Bs.ne (HP.out.later hQ2) hI4.ff (by decide)) (.bool true)
        have hX5 := (HX.out.later hQ2).kpS hI4.m hI4.ff hK5
        have hJ5 := hJ4.kpS hI4.m hI4.ff hK5
        have hK6 := (HK.out.trans (Kp.of_below hQ2)).trans hK5
        have c5 := (hQ1.other (a := ⟨f, 0, none⟩) hgf (.bool true)).at.2.2.1
        have cf := cell1 hI4.ff
        have ff := Bs.frozen hI4.ff 0
        have HI5 := Lib.hid hI5
        have HP5 := Lib.hid hP5
        have HX5 := Lib.hid hX5
        have HJ5 := Lib.hid hJ5
        have HK5 := Lib.hid hK6
        clear HI HP HX HK hQ1 hQ2 hQ3 hI4 hJ4 hK5 hf5 hI5 hP5 hX5 hJ5 hK6 HB3 HO3 HB2 HI2
        go_wp2_with fail
        generalize w4.setCell ⟨f, 0, none⟩ (.bool true) = w5 at *
        go_loopw [10, 34] (fun sv iv wx => ∃ j : Nat, j ≤ ys.length ∧ sv = .int .i64 (setN (ys.take j) : Nat) ∧ iv = .int .i64 j ∧ wx = w5) (fun _ iv _ => ys.length - (intOf iv).toNat)
        case atStart => exact ⟨0, by omega, rfl, rfl, rfl⟩
        case round =>
          obtain ⟨j, hj, rfl, rfl, rfl⟩ := hrel
          by_cases hjl : j < ys.length
          · obtain ⟨q0, off, rfl, _, hcl⟩ := HJ5.out.il.at (by rw [inN_len]; omega)
            have hcx := hcl j (by rw [inN_len]; exact hjl)
            rw [inN_at] at hcx
            have hs1 : setN (ys.take j) < 64 := setN_lt (fun y hy => HY.out y (List.mem_of_mem_take hy))
            have hx6 := HY.out (ys.getD j 0) (by simp [List.getD_eq_getElem?_getD, hjl])
            have HE := Lib.hid (setN_snoc (ys.take j) (ys.getD j 0))
            rw [← take_snocN hjl] at HE
            obtain ⟨y, hyy⟩ : ∃ y, ys.getD j 0 = y := ⟨_, rfl⟩
            rw [hyy] at hcx HE hx6
            obtain ⟨q, hq, hq1, hq2, hq3⟩ := pow_small hx6
            rw [hq] at HE
            have hor := or_small hs1 hq2
            have hos : setN (ys.take j) ||| q < 64 := Nat.or_lt_two_pow (n := 6) hs1 hq2
            generalize setN (ys.take j) ||| q = s2 at *
            generalize setN (ys.take j) = s1 at *
            have hj1 : j + 1 ≤ ys.length := hjl
            have hjb : (inN ys).length = ys.length := inN_len ys
            clear hcl hyy hq
            go_wp2
            go_roundw
            case rel => exact ⟨j + 1, hj1, by rw [HE.out], by go_num, by first | rfl | trivial⟩
            case measure => simp [intOf]; omega
          · obtain rfl : j = ys.length := by omega
            rw [List.take_length]
            have HS1 : Hid (setN ys < 1000000) := Nat.lt_trans (setN_lt HY.out) (by omega)
            have HLN : Hid ((II x).length < 100000) := by
              show _ < _
              rw [HILx.out]; have := HS.out; omega
            obtain ⟨s, hs⟩ : ∃ s, setN ys = s := ⟨_, rfl⟩
            rw [hs] at HS1 HIx ⊢
            obtain ⟨c0, hc0⟩ : ∃ c0, (II x).count s = c0 := ⟨_, rfl⟩
            have hc1 : c0 < 100000 := by
              have h1 := List.count_le_length (a := s) (l := II x)
              have h2 := HLN.out
              omega
            have HC0 := Lib.hid hc0
            have ct := cell1 HI5.out.tt
            have hjb : (inN ys).length = ys.length := inN_len ys
            clear hc0 hs
            go_wp2_with (first
              | (at_lookup; refine wpList_cntLook rfl _ _ rfl M (II x) s rfl rfl HS1.out HI5.out.m c0 HC0.out ?_)
              | (at_mapUpdate; refine wpList_cntPut rfl _ _ _ rfl M (II x) s rfl rfl c0 HC0.out rfl HS1.out HI5.out.m HLN.out ?_; intro w6 hM6 hg6))
            go_roundw
            case rel =>
              have hK6 : Kp (PS M f) wr w6 := Kp.of_grown hg6 (.inl rfl)
              refine ⟨x + 1, hx1, by go_num, ?_, ?_, ?_, HK5.out.trans hK6⟩
              · rw [HIx.out]
                exact HI5.out.step hK6 hM6 ((hg6.block f (Bs.lt HI5.out.ff) (fun e => hMf (by injection e with e; exact e.symm))).trans HI5.out.ff)
              · exact (hg6.block _ (Bs.lt HP5.out) (fun e => HI5.out.m.ne HP5.out (by injection e))).trans HP5.out
              · exact HX5.out.kpS HI5.out.m HI5.out.ff hK6
            case measure => simp [intOf]; omega
    · obtain rfl : x = outs := by omega
      have HI := Lib.hid hI
      have HK := Lib.hid hK
      clear hI hP hX hK
      go_wp2
      go_end0
      exact ⟨rfl, HI.out, HK.out⟩
end Go.Proofs.Ytimeimagncechaa
