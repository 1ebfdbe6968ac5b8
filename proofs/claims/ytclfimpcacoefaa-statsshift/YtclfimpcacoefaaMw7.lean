/- StatsShift's walk. -/
import Derived.Test.YtclfimpcacoefaaMw6
import Derived.Test.YtclfimpcacoefaaMo11
namespace Go.Proofs.Ytclfimpcacoefaa
open Go.RowKit Go.Deep

/-- The first k are put through f. -/
def mapTo (f : Int → Int) (l : List Int) (k : Nat) : List Int := (l.take k).map f ++ l.drop k
theorem mapTo_len (f : Int → Int) (l : List Int) (k : Nat) : (mapTo f l k).length = l.length := by
  simp [mapTo]; omega
theorem mapTo_zero (f : Int → Int) (l : List Int) : mapTo f l 0 = l := by simp [mapTo]
theorem mapTo_all (f : Int → Int) (l : List Int) : mapTo f l l.length = l.map f := by simp [mapTo]
theorem mapTo_at {f : Int → Int} {l : List Int} {k : Nat} (h : k < l.length) : (mapTo f l k).getD k 0 = l.getD k 0 := by
  unfold mapTo
  rw [List.getD_eq_getElem?_getD, List.getElem?_append_right (by simp; omega)]
  simp [List.getD_eq_getElem?_getD, show min k l.length = k by omega]
theorem mapTo_set {f : Int → Int} {l : List Int} {k : Nat} (h : k < l.length) : (mapTo f l k).set k (f (l.getD k 0)) = mapTo f l (k + 1) := by
  unfold mapTo
  rw [List.set_append_right _ _ (by simp; omega), take_snoc h, List.map_append, List.append_assoc]
  congr 1
  rw [show k - (List.map f (List.take k l)).length = 0 by simp; omega]
  rw [List.drop_eq_getElem_cons h, List.set_cons_zero]
  simp only [List.getD_eq_getElem?_getD, List.getElem?_eq_getElem h, Option.getD_some]
  rfl
theorem grown_cell (w : World) (p : Addr) (u : Value) : w.grownBy (w.setCell p u) (some p.block) := by
  have h := (Below.refl p.block w).setCell (p := p) (Nat.le_refl _) u
  exact ⟨h.os, h.tape, h.output, h.size, fun i _ hne => heap_setCell_other w p i u (fun e => hne (by rw [e]))⟩
theorem OI.setOff {w : World} {B g n cap : Nat} {xs : List Int} (h : OI w B (.slice (some ⟨g, 0, none⟩) n cap) xs) {p : Addr} (hp : p.block ≠ g) (u : Value) : OI (w.setCell p u) B (.slice (some ⟨g, 0, none⟩) n cap) xs :=
  h.kept (grown_cell w p u) (.inr (fun e => hp (by simp [Value.ownBlock] at e; exact e.symm)))

set_option maxRecDepth 100000 in
set_option maxHeartbeats 3000000 in
theorem statsShift_any (A : Option Addr) (ca : Nat) (l : List Int) (b t : Int) (w : World) (hl : IP w A ca l) (hlen : l.length < 17592186044416)
    (hb : -9223372036854775808 ≤ b ∧ b ≤ 9223372036854775807) (ht : -9223372036854775808 ≤ t ∧ t ≤ 9223372036854775807) :
    Calls Try.prog 7 #[.slice A l.length ca, .int .i64 b, .int .i64 t] w fun e w' => e = .returned (.bool true) ∧ Below w.heap.size w w' := by
  have CA := Lib.hid (alive16_any w)
  have HL := Lib.hid hl
  have hle := hl.le
  have hcap := hl.cap
  clear hl
  go_enter Try.func7, Try.ntmps7
  go_wp2_with fail
  refine CA.out.mono ?_
  rintro e w1 ⟨rfl, hb1⟩
  have HB1 := Lib.hid hb1
  clear hb1 CA
  have HSM := Lib.hid (small_of hb ht)
  obtain ⟨nb, hnb⟩ : ∃ nb, IntKind.i64.wrap (-b) = nb := ⟨_, rfl⟩
  obtain ⟨nt, hnt⟩ : ∃ nt, IntKind.i64.wrap (-t) = nt := ⟨_, rfl⟩
  rw [hnb, hnt] at HSM
  have hmx := fun (w : World) (ts : Array TypeId) (ty : TypeId) => run_max4 w ts ty b nb t nt
  clear hb ht
  by_cases h30 : 30 < max4 b nb t nt
  · generalize max4 b nb t nt = mx at *
    go_wp2
    go_ret
    exact ⟨rfl, HB1.out⟩
  have hsm := Lib.hid (HSM.out h30)
  generalize max4 b nb t nt = mx at *
  clear HSM
  have C1 := Lib.hid (clone_any A ca l w1 (HL.out.later HB1.out) hlen)
  go_wp2_with fail
  refine C1.out.mono ?_
  rintro e w2 ⟨v1, rfl, hO1, hb2⟩
  obtain ⟨R1, c1, rfl, hI1⟩ := hO1.ip
  have hB2 := HB1.out.trans (hb2.mono HB1.out.size)
  have C2 := Lib.hid (clone_any A ca l w2 (HL.out.later hB2) hlen)
  have HB2 := Lib.hid hB2
  have HO1 := Lib.hid hO1
  have HS2 : Hid (w.heap.size ≤ w2.heap.size) := hB2.size
  have HK := Lib.hid (OI.blk hO1)
  have z1 := hI1.le
  have z1' := hI1.cap
  clear hb2 hB2 hO1 hI1 C1 hmx
  go_wp2_with fail
  refine C2.out.mono ?_
  rintro e w3 ⟨v2, rfl, hO2, hb3⟩
  obtain ⟨R2, c2, rfl, hI2⟩ := hO2.ip
  have HB3 := Lib.hid (HB2.out.trans (hb3.mono HB2.out.size))
  have HO1b := Lib.hid (HO1.out.later hb3)
  have HO2 := Lib.hid hO2
  have z2 := hI2.le
  have z2' := hI2.cap
  obtain ⟨B1, hB1⟩ : ∃ B1, B1 = w1.heap.size := ⟨_, rfl⟩
  obtain ⟨B2, hB2⟩ : ∃ B2, B2 = w2.heap.size := ⟨_, rfl⟩
  have HBB : Hid (w.heap.size ≤ B1 ∧ w.heap.size ≤ B2) := by
    show _ ∧ _
    exact ⟨by rw [hB1]; exact HB1.out.size, by rw [hB2]; exact HB2.out.size⟩
  rw [← hB1] at HO1b
  rw [← hB2] at HO2 HK
  clear hO2 hb3 hI2 C2 HO1 HB2 hB1 hB2 HS2
  go_wp2
  go_loopw [33] (fun iv wr => ∃ k : Nat, k ≤ l.length ∧ iv = .int .i64 k ∧ OI wr B1 (.slice R1 l.length c1) (mapTo (fun x => IntKind.i64.wrap (x + b)) l k) ∧ OI wr B2 (.slice R2 l.length c2) (mapTo (fun x => IntKind.i64.wrap (x * t)) l k) ∧ Below w.heap.size w wr) (fun iv _ => l.length - (intOf iv).toNat)
  case atStart => exact ⟨0, by omega, rfl, by rw [mapTo_zero]; exact HO1b.out, by rw [mapTo_zero]; exact HO2.out, HB3.out⟩
  case round =>
    clear HO1b HO2 HB3
    obtain ⟨k, hk, rfl, hO1, hO2, hB⟩ := hrel
    have HO1 := Lib.hid hO1
    have HO2 := Lib.hid hO2
    have HB := Lib.hid hB
    clear hO1 hO2 hB
    by_cases hlt : k < l.length
    · obtain ⟨g1, cap1, e, hg1, _, _, _, hat1, hfz1, hP1⟩ := HO1.out.form (mapTo_len _ l k) (by omega)
      injection e with e1 _ e3
      subst e1 e3
      obtain ⟨g2, cap2, e, hg2, _, _, _, hat2, hfz2, hP2⟩ := HO2.out.form (mapTo_len _ l k) (by omega)
      injection e with e1 _ e3
      subst e1 e3
      have hgg : g1 < B2 := HK.out g1 rfl
      have hne : g2 ≠ g1 := by omega
      have ck1 := hat1 k hlt
      rw [mapTo_at hlt] at ck1
      have ck2 := hat2 k hlt
      rw [mapTo_at hlt] at ck2
      have fk1 := hfz1 k
      have fk2 := hfz2 k
      have HX1 := Lib.hid (mapTo_set (f := fun x => IntKind.i64.wrap (x + b)) hlt)
      have HX2 := Lib.hid (mapTo_set (f := fun x => IntKind.i64.wrap (x * t)) hlt)
      obtain ⟨y1, hy1⟩ : ∃ y1, IntKind.i64.wrap (l.getD k 0 + b) = y1 := ⟨_, rfl⟩
      obtain ⟨y2, hy2⟩ : ∃ y2, IntKind.i64.wrap (l.getD k 0 * t) = y2 := ⟨_, rfl⟩
      have HQ1 : Hid (OI ((wr.setCell ⟨g1, k, none⟩ (.int .i64 y1)).setCell ⟨g2, k, none⟩ (.int .i64 y2)) B1 (.slice (some ⟨g1, 0, none⟩) l.length c1) (mapTo (fun x => IntKind.i64.wrap (x + b)) l (k + 1))) := by
        show OI _ _ _ _
        rw [← HX1.out, ← hy1]
        exact (hP1.set k _).setOff hne _
      have HQ2 : Hid (OI ((wr.setCell ⟨g1, k, none⟩ (.int .i64 y1)).setCell ⟨g2, k, none⟩ (.int .i64 y2)) B2 (.slice (some ⟨g2, 0, none⟩) l.length c2) (mapTo (fun x => IntKind.i64.wrap (x * t)) l (k + 1))) := by
        show OI _ _ _ _
        rw [← HX2.out, ← hy2]
        exact (hP2.setLow (a := ⟨g1, k, none⟩) hgg _).set k _
      have HBq : Hid (Below w.heap.size w ((wr.setCell ⟨g1, k, none⟩ (.int .i64 y1)).setCell ⟨g2, k, none⟩ (.int .i64 y2))) := by
        have := HBB.out
        exact (HB.out.setCell (p := ⟨g1, k, none⟩) (by show w.heap.size ≤ g1; omega) _).setCell (p := ⟨g2, k, none⟩) (by show w.heap.size ≤ g2; omega) _
      clear hat1 hfz1 hP1 hat2 hfz2 hP2 HX1 HX2
      generalize l.getD k 0 = x at *
      go_wp2
      go_roundw
      case rel => exact ⟨k + 1, by omega, by go_num, HQ1.out, HQ2.out, HBq.out⟩
      case measure => simp [intOf]; omega
    · obtain rfl : k = l.length := by omega
      have hI1 := HO1.out.ipv (mapTo_len _ l l.length)
      have hI2 := HO2.out.ipv (mapTo_len _ l l.length)
      rw [mapTo_all] at hI1 hI2
      have SH := Lib.hid (fun ho hm => shift_ok (l := l) hsm.out.1 ho hm)
      have TI := Lib.hid (fun ho hn => times_ok (l := l) hsm.out.2 ho hn)
      have l1 : (l.map fun x => IntKind.i64.wrap (x + b)).length = l.length := List.length_map _
      have l2 : (l.map fun x => IntKind.i64.wrap (x * t)).length = l.length := List.length_map _
      obtain ⟨M, hM⟩ : ∃ M, (l.map fun x => IntKind.i64.wrap (x + b)) = M := ⟨_, rfl⟩
      obtain ⟨N, hN⟩ : ∃ N, (l.map fun x => IntKind.i64.wrap (x * t)) = N := ⟨_, rfl⟩
      rw [hM] at hI1 SH l1
      rw [hN] at hI2 TI l2
      have C1 := Lib.hid (shift1_any A ca l wr (HL.out.later HB.out))
      have HI1 := Lib.hid hI1
      have HI2 := Lib.hid hI2
      have L1 := Lib.hid l1
      have L2 := Lib.hid l2
      clear hM hN hI1 hI2 l1 l2 HO1 HO2
      by_cases h : okl l
      · rw [shT_ok h] at C1
        have H := Lib.hid h
        clear h
        obtain ⟨s, hs⟩ : ∃ s, spr l = s := ⟨_, rfl⟩
        rw [hs] at C1 SH TI
        clear hs
        go_wp2_with fail
        refine C1.out.mono ?_
        rintro e w4 ⟨rfl, hb⟩
        have HB4 := Lib.hid (HB.out.trans (hb.mono HB.out.size))
        have C2 := Lib.hid (shift1_any R1 c1 M w4 (HI1.out.later hb))
        have HI4 := Lib.hid (HI2.out.later hb)
        rw [L1.out] at C2
        clear hb C1 HB HI1 HI2
        by_cases hm : okl M
        · rw [shT_ok hm, SH.out H.out hm] at C2
          clear hm SH
          go_wp2_with fail
          refine C2.out.mono ?_
          rintro e w5 ⟨rfl, hb⟩
          have HB5 := Lib.hid (HB4.out.trans (hb.mono HB4.out.size))
          have C3 := Lib.hid (shift1_any R2 c2 N w5 (HI4.out.later hb))
          rw [L2.out] at C3
          clear hb C2 HB4 HI4
          by_cases hn : okl N
          · rw [shT_ok hn] at C3
            have e2 := TI.out H.out hn
            obtain ⟨z, hz⟩ : ∃ z, spr N = z := ⟨_, rfl⟩
            rw [hz] at C3 e2
            obtain ⟨p, hp⟩ : ∃ p, IntKind.i64.wrap (s * t) = p := ⟨_, rfl⟩
            rw [hp] at e2
            clear hn TI hz
            go_wp2_with fail
            refine C3.out.mono ?_
            rintro e w6 ⟨rfl, hb⟩
            have HB6 := Lib.hid (HB5.out.trans (hb.mono HB5.out.size))
            clear hb C3 HB5
            go_wp2
            go_ret
            exact ⟨rfl, HB6.out⟩
          · rw [shT_no hn] at C3
            clear hn TI
            go_wp2_with fail
            refine C3.out.mono ?_
            rintro e w6 ⟨rfl, hb⟩
            have HB6 := Lib.hid (HB5.out.trans (hb.mono HB5.out.size))
            clear hb C3 HB5
            go_wp2
            go_ret
            exact ⟨rfl, HB6.out⟩
        · rw [shT_no hm] at C2
          clear hm SH
          go_wp2_with fail
          refine C2.out.mono ?_
          rintro e w5 ⟨rfl, hb⟩
          have HB5 := Lib.hid (HB4.out.trans (hb.mono HB4.out.size))
          have C3 := Lib.hid (shift1_any R2 c2 N w5 (HI4.out.later hb))
          rw [L2.out] at C3
          clear hb C2 HB4 HI4
          by_cases hn : okl N
          · rw [shT_ok hn] at C3
            have e2 := TI.out H.out hn
            obtain ⟨z, hz⟩ : ∃ z, spr N = z := ⟨_, rfl⟩
            rw [hz] at C3 e2
            obtain ⟨p, hp⟩ : ∃ p, IntKind.i64.wrap (s * t) = p := ⟨_, rfl⟩
            rw [hp] at e2
            clear hn TI hz
            go_wp2_with fail
            refine C3.out.mono ?_
            rintro e w6 ⟨rfl, hb⟩
            have HB6 := Lib.hid (HB5.out.trans (hb.mono HB5.out.size))
            clear hb C3 HB5
            go_wp2
            go_ret
            exact ⟨rfl, HB6.out⟩
          · rw [shT_no hn] at C3
            clear hn TI
            go_wp2_with fail
            refine C3.out.mono ?_
            rintro e w6 ⟨rfl, hb⟩
            have HB6 := Lib.hid (HB5.out.trans (hb.mono HB5.out.size))
            clear hb C3 HB5
            go_wp2
            go_ret
            exact ⟨rfl, HB6.out⟩
      · rw [shT_no h] at C1
        clear h
        have F : ∀ L : List Int, ∃ (z : Int) (q : Bool), shT L = .tuple #[.int .i64 z, .bool q] := fun L => by
          by_cases h : okl L
          · exact ⟨_, _, shT_ok h⟩
          · exact ⟨_, _, shT_no h⟩
        obtain ⟨zm, qm, em⟩ := F M
        obtain ⟨zn, qn, en⟩ := F N
        clear F SH TI
        go_wp2_with fail
        refine C1.out.mono ?_
        rintro e w4 ⟨rfl, hb⟩
        have HB4 := Lib.hid (HB.out.trans (hb.mono HB.out.size))
        have C2 := Lib.hid (shift1_any R1 c1 M w4 (HI1.out.later hb))
        have HI4 := Lib.hid (HI2.out.later hb)
        rw [L1.out, em] at C2
        clear hb C1 HB HI1 HI2 em
        go_wp2_with fail
        refine C2.out.mono ?_
        rintro e w5 ⟨rfl, hb⟩
        have HB5 := Lib.hid (HB4.out.trans (hb.mono HB4.out.size))
        have C3 := Lib.hid (shift1_any R2 c2 N w5 (HI4.out.later hb))
        rw [L2.out, en] at C3
        clear hb C2 HB4 HI4 en
        go_wp2_with fail
        refine C3.out.mono ?_
        rintro e w6 ⟨rfl, hb⟩
        have HB6 := Lib.hid (HB5.out.trans (hb.mono HB5.out.size))
        clear hb C3 HB5
        go_wp2
        go_ret
        exact ⟨rfl, HB6.out⟩
end Go.Proofs.Ytclfimpcacoefaa
