/- lotdrawerkeep.BottomOrder: the walk (up to a bulk). -/
import Derived.Test.YtnihcpaakbhpcaaGp
import Derived.Test.YtnihcpaakbhpcaaRu
namespace Go.Proofs.Ytnihcpaakbhpcaa
open Go.RowKit Go.Deep

theorem pick_in (k : Int) (n : Nat) (hn : 0 < n) : ∃ j : Nat, j < n ∧ (k.tmod n + n).tmod n = j := by
  have h1 : (k.tmod n) < n := Int.tmod_lt_of_pos k (by omega)
  have h2 : -(n : Int) < k.tmod n := by
    have := Int.lt_tmod_of_pos k (show (0 : Int) < n by omega)
    omega
  have h3 : 0 ≤ (k.tmod n + n).tmod n := Int.tmod_nonneg _ (by omega)
  have h4 : (k.tmod n + n).tmod n < n := Int.tmod_lt_of_pos _ (by omega)
  exact ⟨((k.tmod n + n).tmod n).toNat, by omega, by omega⟩

set_option maxRecDepth 100000 in
set_option maxHeartbeats 4000000 in
theorem bottomOrder_walk (s : W64) (r : Int) (A P : Option Addr) (ca cp : Nat) (l : List W64) (ps : List Int) (w : World) (hl : UP w A ca l) (hp : IP w P cp ps) (sl : ca ≤ 1048576) (sp : cp ≤ 1048576) :
    Calls Try.prog 6 #[.int .u64 (s.toNat : Int), .int .i64 r, .slice A l.length ca, .slice P ps.length cp] w fun e w' => e = .returned (.bool true) ∧ Below w.heap.size w w' := by
  have hll : l.length ≤ 1048576 := Nat.le_trans hl.le sl
  have hpl : ps.length ≤ 1048576 := Nat.le_trans hp.le sp
  have CA := Lib.hid (alive12_any w)
  have HL := Lib.hid hl
  have HP := Lib.hid hp
  have C1 : Hid (∀ w1, Below w.heap.size w w1 → Calls Try.prog 16 #[.int .u64 (s.toNat : Int), .int .i64 r, .slice A l.length ca] w1 (UOPost w1 (allF s r l))) := fun w1 h => all_any s r A ca l w1 (hl.later h) (by omega)
  have C2 : Hid (∀ w1, Below w.heap.size w w1 → Calls Try.prog 23 #[.slice A l.length ca] w1 fun e w' => ∃ v, e = .returned v ∧ OU w' w1.heap.size v l ∧ Below w1.heap.size w1 w') := fun w1 h => cloneU_any A ca l w1 (hl.later h) (by omega)
  have HM : Hid (∀ ex : List W64, (∀ x ∈ ex, x ∈ l) → allF s r (l.reverse ++ ex) = allF s r l) := fun ex hex => by
    have : skL s r (l.reverse ++ ex) = skL s r l := skL_congr fun x => by
      rw [List.mem_append, List.mem_reverse]
      exact ⟨fun h => h.elim id (hex x), Or.inl⟩
    unfold allF
    rw [this]
  have hR : allF s r l = ([], 2) ∨ (allF s r l = (skL s r l, 0) ∧ RtP s r (skL s r l)) := by
    by_cases h : 1 ≤ r ∧ r ≤ 400
    · exact .inr ⟨allF_ok h, rt_sk h l⟩
    · exact .inl (allF_bad h)
  have HR := Lib.hid hR
  clear hl hp hR
  go_enter Try.func6, Try.ntmps6
  go_wp2_with fail
  refine CA.out.mono ?_
  rintro e w1 ⟨rfl, hb⟩
  have HB := Lib.hid hb
  clear hb CA
  go_wp2_with fail
  refine (C1.out _ HB.out).mono ?_
  rintro e w2 ⟨v, rfl, hO, hb⟩
  obtain ⟨R, cr, rfl, hU⟩ := hO.up
  have HB := Lib.hid (HB.out.trans (hb.mono HB.out.size))
  have UA := Lib.hid hU
  obtain ⟨p, hp⟩ : ∃ p, allF s r l = p := ⟨_, rfl⟩
  rw [hp] at UA HR HM ⊢
  obtain ⟨a, e1⟩ := p
  dsimp only at UA ⊢
  clear hb hO hU C1 hp
  have hsA := Lib.hid UA.out.cap
  go_wp2_with fail
  refine (C2.out _ HB.out).mono ?_
  rintro e w3 ⟨v, rfl, hO, hb⟩
  obtain ⟨R0, c0, rfl, _⟩ := hO.up
  have CR := Lib.hid (reverseU_any w2.heap.size l.length R0 c0 l w3 rfl hO hb.size)
  have HB2 : Hid (Below w2.heap.size w2 w3) := hb
  clear hb hO C2
  go_wp2_with fail
  refine CR.out.mono ?_
  rintro e w4 ⟨rfl, hO, hb⟩
  have HB2 : Hid (Below w2.heap.size w2 w4) := HB2.out.trans hb
  have HO : Hid (OU w4 w2.heap.size (.slice R0 l.length c0) (l.reverse ++ [])) := by rw [List.append_nil]; exact hO
  clear hb hO CR
  go_wp2_with fail
  go_loopw [11, 31] (fun mv iv wr => ∃ (ex : List W64) (R1 : Option Addr) (c1 i n : Nat), mv = .slice R1 n c1 ∧ (l.reverse ++ ex).length = n ∧ iv = .int .i64 i ∧ i ≤ ps.length ∧ ex.length ≤ i ∧ (∀ x ∈ ex, x ∈ l) ∧ OU wr w2.heap.size (.slice R1 n c1) (l.reverse ++ ex) ∧ Below w2.heap.size w2 wr) (fun _ iv _ => ps.length - (intOf iv).toNat)
  case atStart => exact ⟨[], R0, c0, 0, l.length, rfl, by simp, rfl, by omega, by simp, by simp, HO.out, HB2.out⟩
  case round =>
    clear HO HB2
    obtain ⟨ex, R1, c1, i, n, rfl, hn, rfl, hi, hex, hmem, hO, hb⟩ := hrel
    have HN := Lib.hid hn
    have HE := Lib.hid hmem
    have HO := Lib.hid hO
    have HB2 := Lib.hid hb
    have HBW := Lib.hid (HB.out.trans (hb.mono HB.out.size))
    have hn2 : n ≤ 2097152 := by
      rw [← hn, List.length_append, List.length_reverse]; omega
    have hs2 := Lib.hid hb.size
    clear hn hmem hO hb
    by_cases hlt : i < ps.length
    · obtain ⟨b, off, rfl, _, hcell⟩ := (HP.out.later HBW.out).il.at (by omega)
      have ci := hcell i hlt
      have i1 : (i : Int) < (ps.length : Int) := by omega
      clear hcell
      generalize ps.getD i 0 = k at *
      by_cases h0 : 0 < l.length
      · have t1 : decide ((0 : Int) < (l.length : Int)) = true := decide_eq_true (by omega)
        obtain ⟨b2, off2, rfl, _, hcell⟩ := (HL.out.later HBW.out).ul.at h0
        obtain ⟨j, hj, hk⟩ := pick_in k l.length h0
        have cj := hcell j hj
        have hjl : (j : Int) < (l.length : Int) := by omega
        have HX : Hid (l.getD j 0 ∈ l) := by
          show _ ∈ _
          rw [List.getD_eq_getElem?_getD, List.getElem?_eq_getElem hj]
          exact List.getElem_mem _
        have hz := eqz_no (x := l.length) (by omega)
        generalize l.getD j 0 = x at *
        have hca := HL.out.le
        clear hcell
        have k1 := Int.tmod_lt_of_pos k (show (0 : Int) < l.length by omega)
        have k2 := Int.lt_tmod_of_pos k (show (0 : Int) < l.length by omega)
        obtain ⟨xs, hxs⟩ : ∃ xs, l.reverse ++ ex = xs := ⟨_, rfl⟩
        rw [hxs] at HN HO
        have hxl : xs.length < 17592186044416 := by have := HN.out; omega
        have HXS : Hid (xs ++ [x] = l.reverse ++ (ex ++ [x])) := by show _ = _; rw [← hxs, List.append_assoc]
        have HEX : Hid (∀ y ∈ ex ++ [x], y ∈ l) := fun y hy => by
          rcases List.mem_append.1 hy with h | h
          · exact HE.out y h
          · rw [List.mem_singleton] at h; rw [h]; exact HX.out
        have hel : (ex ++ [x]).length = ex.length + 1 := by simp
        have HEL := Lib.hid hel
        clear hxs hel
        go_wp2_with (at_builtin; refine wpList_pushU rfl _ _ rfl w2.heap.size (.slice R1 n c1) xs x rfl HO.out rfl hxl hs2.out HB2.out ?_)
        intro g cap w5 hO5 hB5 _
        have HO5 := Lib.hid hO5
        have HB5 := Lib.hid hB5
        clear hO5 hB5
        go_wp2
        go_roundw
        case rel => exact ⟨ex ++ [x], some ⟨g, 0, none⟩, cap, i + 1, xs.length + 1, rfl, by rw [← HXS.out]; simp, by go_num, by omega, by rw [HEL.out]; omega, HEX.out, by rw [← HXS.out]; exact HO5.out, HB5.out⟩
        case measure => simp [intOf]; omega
      · have t1 : decide ((0 : Int) < (l.length : Int)) = false := decide_eq_false (by omega)
        go_wp2
        go_roundw
        case rel => exact ⟨ex, R1, c1, i + 1, n, rfl, HN.out, by go_num, by omega, by omega, HE.out, HO.out, HB2.out⟩
        case measure => simp [intOf]; omega
    · have HUM : Hid (UP wr R1 c1 (l.reverse ++ ex)) := HO.out.upv HN.out
      have CM := all_any s r R1 c1 (l.reverse ++ ex) wr HUM.out (by have := HN.out; omega)
      rw [HM.out ex HE.out, HN.out] at CM
      have CM := Lib.hid CM
      have UA := Lib.hid (UA.out.later HB2.out)
      clear HM HO HE HN HUM HB2
      go_wp2_with fail
      refine CM.out.mono ?_
      rintro e w5 ⟨v, rfl, hO, hb⟩
      obtain ⟨R5, c5, rfl, hU⟩ := hO.up
      dsimp only at hU ⊢
      have HB5 := Lib.hid (HBW.out.trans (hb.mono HBW.out.size))
      have UA := Lib.hid (UA.out.later hb)
      have U5 := Lib.hid hU
      clear hb hO hU CM HBW
      have h1 := UA.out.cap
      have h2 := U5.out.cap
      have h3 := UA.out.le
      have h4 := U5.out.le
      have CE := Lib.hid (uequal_any R R5 cr c5 a a w5 UA.out.ul U5.out.ul (by omega) (by omega))
      simp only [decide_true] at CE
      have CT : Hid (∀ w6, Below w5.heap.size w5 w6 → Calls Try.prog 17 #[.int .u64 (s.toNat : Int), .int .i64 r, .slice R a.length cr] w6 fun e w' => e = .returned (.bool (decide (RtP s r a))) ∧ Below w6.heap.size w6 w') := fun w6 h => right_any s r R cr a w6 (UA.out.later h)
      clear h1 h2 h3 h4 U5 UA
      rcases HR.out with h | ⟨h, hrt⟩
      · obtain ⟨rfl, rfl⟩ : a = [] ∧ e1 = 2 := by cases h; exact ⟨rfl, rfl⟩
        clear h HR CT
        go_wp2_with fail
        refine CE.out.mono ?_
        rintro e w6 ⟨rfl, hb⟩
        have HB6 := Lib.hid (HB5.out.trans (hb.mono HB5.out.size))
        clear hb CE
        go_wp2
        go_ret
        exact ⟨rfl, HB6.out⟩
      · obtain ⟨ha, rfl⟩ : a = skL s r l ∧ e1 = 0 := by cases h; exact ⟨rfl, rfl⟩
        rw [← ha] at hrt
        rw [decide_eq_true hrt] at CT
        clear h HR ha hrt
        go_wp2_with fail
        refine CE.out.mono ?_
        rintro e w6 ⟨rfl, hb⟩
        have HB6 := Lib.hid (HB5.out.trans (hb.mono HB5.out.size))
        have CT2 := Lib.hid (CT.out w6 hb)
        clear hb CE CT
        go_wp2_with fail
        refine CT2.out.mono ?_
        rintro e w7 ⟨rfl, hb⟩
        have HB7 := Lib.hid (HB6.out.trans (hb.mono HB6.out.size))
        clear hb CT2
        go_wp2
        go_ret
        exact ⟨rfl, HB7.out⟩
end Go.Proofs.Ytnihcpaakbhpcaa
