/- quant.compress. -/
import Derived.Test.YtimcbeblmicioaaQk6
import Derived.Test.YtimcbeblmicioaaQm7
namespace Go.Proofs.Ytimcbeblmicioaa
open Go.RowKit Go.Deep

/-- Entries j and on compressed. -/
def qpart (b : Int) (T : List Rk) (j : Nat) : List Rk := T.take j ++ qgo b (T.drop j)
theorem qpart_start {b : Int} {T : List Rk} {j : Nat} (h : j + 1 = T.length) : qpart b T j = T := by
  have e : T.drop j = [rat T j] := by rw [drop_at (by omega), List.drop_of_length_le (by omega)]
  unfold qpart
  rw [e]
  show T.take j ++ qstep b (rat T j) [] = T
  show T.take j ++ [rat T j] = T
  rw [← e, List.take_append_drop]
theorem qpart_end {b : Int} {T : List Rk} {j : Nat} (h : j + 1 ≤ T.length) (h1 : j ≤ 1) (h2 : 1 ≤ j ∨ T.length = 1) : qpart b T j = qcmp b T := by
  cases T with
  | nil => simp at h
  | cons a t =>
    rcases (show j = 0 ∨ j = 1 by omega) with rfl | rfl
    · have : t = [] := List.eq_nil_of_length_eq_zero (by rcases h2 with h2 | h2
                                                         · omega
                                                         · simp only [List.length_cons] at h2; omega)
      subst this
      rfl
    · rfl
theorem qpart_len {b : Int} {T : List Rk} {j : Nat} (h : j ≤ T.length) : (qpart b T j).length ≤ T.length := by
  unfold qpart
  have := qgo_len b (T.drop j)
  rw [List.length_append, List.length_take]
  rw [List.length_drop] at this
  omega
/-- Place i, and the one behind it. -/
theorem qpart_at {b : Int} {T : List Rk} {i : Nat} (h : i + 1 < T.length) : ∃ (k : Rk) (l : List Rk), qgo b (T.drop (i + 1)) = k :: l ∧ i + 1 < (qpart b T (i + 1)).length ∧ rat (qpart b T (i + 1)) i = rat T i ∧ rat (qpart b T (i + 1)) (i + 1) = k := by
  have hp := qback_pos (b := b) h
  cases hq : qgo b (T.drop (i + 1)) with
  | nil => rw [hq] at hp; simp at hp
  | cons k l =>
    have hl : (T.take (i + 1)).length = i + 1 := by rw [List.length_take]; omega
    refine ⟨k, l, rfl, ?_, ?_, ?_⟩
    · unfold qpart
      rw [hq, List.length_append, hl, List.length_cons]; omega
    · unfold qpart rat
      rw [List.getD_eq_getElem?_getD, List.getD_eq_getElem?_getD, List.getElem?_append_left (by omega), List.getElem?_take, if_pos (by omega)]
    · unfold qpart rat
      rw [hq, List.getD_eq_getElem?_getD, List.getElem?_append_right (by omega), hl, Nat.sub_self]
      rfl
theorem qpart_skip {b : Int} {T : List Rk} {i : Nat} (h : i + 1 < T.length) (hn : ¬ (rat T i).g + (rat (qpart b T (i + 1)) (i + 1)).g + (rat (qpart b T (i + 1)) (i + 1)).m ≤ b) : qpart b T (i + 1) = qpart b T i := by
  obtain ⟨k, l, h1, h2, h3, h4⟩ := qpart_at (b := b) h
  rw [h4] at hn
  unfold qpart
  rw [drop_at (show i < T.length by omega)]
  show _ = T.take i ++ qstep b (rat T i) (qgo b (T.drop (i + 1)))
  rw [h1, qstep_cons, if_neg hn, rat_take (by omega), List.append_assoc]
  rfl
theorem qpart_take {b : Int} {T : List Rk} {i : Nat} (h : i + 1 < T.length) (hn : (rat T i).g + (rat (qpart b T (i + 1)) (i + 1)).g + (rat (qpart b T (i + 1)) (i + 1)).m ≤ b) :
    ((qpart b T (i + 1)).set (i + 1) ⟨(rat (qpart b T (i + 1)) (i + 1)).n, (rat (qpart b T (i + 1)) (i + 1)).g + (rat T i).g, (rat (qpart b T (i + 1)) (i + 1)).m⟩).eraseIdx i = qpart b T i := by
  obtain ⟨k, l, h1, h2, h3, h4⟩ := qpart_at (b := b) h
  rw [h4] at hn ⊢
  have hl : (T.take (i + 1)).length = i + 1 := by rw [List.length_take]; omega
  have hl2 : (T.take i).length = i := by rw [List.length_take]; omega
  have e : qpart b T (i + 1) = T.take (i + 1) ++ (k :: l) := by unfold qpart; rw [h1]
  have e2 : qpart b T i = T.take i ++ (⟨k.n, k.g + (rat T i).g, k.m⟩ :: l) := by
    unfold qpart
    rw [drop_at (show i < T.length by omega)]
    show T.take i ++ qstep b (rat T i) (qgo b (T.drop (i + 1))) = _
    rw [h1, qstep_cons, if_pos hn]
  rw [e, e2, List.set_append_right _ _ (by omega), hl, Nat.sub_self, rat_take (by omega), List.append_assoc, List.eraseIdx_append_of_length_le (by omega), hl2, Nat.sub_self]
  rfl

set_option maxRecDepth 100000 in
set_option maxHeartbeats 2500000 in
theorem compress_any (B : Nat) (v : Value) (T : List Rk) (b : Int) (w : World) (h : OR w B v T) (hT : 1 ≤ T.length) (hbd : qbd T) (htt : qtot T ≤ 2199023255552) (hl : T.length ≤ 401) :
    Calls Try.prog 37 #[.int .i64 b, v] w fun e w' => ∃ v', e = .returned v' ∧ OR w' B v' (qcmp b T) ∧ Below B w w' := by
  obtain ⟨g0, c0, rfl, hB0, hg0, hc0, hcm0, h1⟩ := h.form rfl (by omega)
  have HO := Lib.hid h1
  have HBD := Lib.hid hbd
  have HTG : Hid (∀ r ∈ T, r.g ≤ 2199023255552) := fun r hr => by
    have := qtot_mem (fun y hy => by have := hbd y hy; omega) r hr
    omega
  have HQB := Lib.hid (fun j => qback_bd (b := b) hbd htt j)
  clear h h1 hbd
  go_enter Try.func37, Try.ntmps37
  go_wp2_with fail
  go_loopw [1, 5] (fun lv iv wr => ∃ (j : Nat) (kk : Int), j + 1 ≤ T.length ∧ (1 ≤ j ∨ T.length = 1) ∧ kk = (j : Int) - 1 ∧ iv = .int .i64 kk ∧ OR wr B lv (qpart b T j) ∧ Below B w wr) (fun _ iv _ => (intOf iv + 1).toNat)
  case atStart => exact ⟨T.length - 1, (T.length : Int) - 2, by omega, by omega, by omega, rfl, by rw [qpart_start (by omega)]; exact HO.out, Below.refl _ _⟩
  case round =>
    clear HO
    obtain ⟨j, kk, hj, hj1, hkk, rfl, hO, hB⟩ := hrel
    have HO := Lib.hid hO
    have HB := Lib.hid hB
    clear hO hB
    by_cases hpos : 1 ≤ kk
    · obtain ⟨i, rfl⟩ : ∃ i : Nat, kk = (i : Int) := ⟨kk.toNat, by omega⟩
      obtain rfl : j = i + 1 := by omega
      have hil : i + 1 < T.length := by omega
      obtain ⟨k, l, q1, q2, q3, q4⟩ := qpart_at (b := b) hil
      have hqm : k ∈ qback b T (i + 1) := by
        unfold qback
        rw [if_neg (by omega), List.mem_reverse, q1]
        exact List.mem_cons_self ..
      obtain ⟨⟨b1, b2, b3⟩, b4⟩ := HQB.out (i + 1) k hqm
      obtain ⟨t1, t2, t3⟩ := HBD.out _ (rat_mem (show i < T.length by omega))
      have t4 := HTG.out _ (rat_mem (show i < T.length by omega))
      have QS := Lib.hid (fun hn => qpart_skip (b := b) hil hn)
      have QT := Lib.hid (fun hn => qpart_take (b := b) hil hn)
      have hpl := qpart_len (b := b) (T := T) (j := i + 1) (by omega)
      rw [q4] at QS QT
      obtain ⟨g, c, rfl, hBg, hg, hnc, hcm, hf⟩ := HO.out.form rfl (by omega)
      have HF := Lib.hid hf
      obtain ⟨k0, k1, k2⟩ := hf.at (i := i) (by omega)
      obtain ⟨m0, m1, m2⟩ := hf.at (i := i + 1) q2
      have fz := hf.frozen ((i + 1) * 3 + 1)
      rw [q3] at k0 k1 k2
      rw [q4] at m0 m1 m2
      have HS : Hid (∀ q y, OR ((wr.drewN q).setCell ⟨g, (i + 1) * 3 + 1, none⟩ (.int .i64 y)) B (.slice (some ⟨g, 0, none⟩) (qpart b T (i + 1)).length c) ((qpart b T (i + 1)).set (i + 1) ⟨k.n, y, k.m⟩)) := fun q y => by
        have := (hf.later (below_drewN (Below.refl _ wr) q)).setg q2 y
        rw [q4] at this
        exact this
      clear hf q1 q3 q4 hqm HO
      generalize qpart b T (i + 1) = L at *
      obtain ⟨n, hn⟩ : ∃ n, L.length = n := ⟨_, rfl⟩
      rw [hn] at HF HS hnc q2 hpl ⊢
      have HLN := Lib.hid hn
      clear hn
      obtain ⟨tg, htg⟩ : ∃ tg, (rat T i).g = tg := ⟨_, rfl⟩
      rw [htg] at k1 t1 t4 QS QT
      obtain ⟨kn, kg, km⟩ := k
      dsimp only at m0 m1 m2 b1 b2 b3 b4 QS QT HS
      clear htg k0 k2 m0 hkk hj1 t2 t3
      have hi1 : (i : Int) < (n : Int) := by omega
      have hi2 : (i : Int) + 1 < (n : Int) := by omega
      have ht1 : ((i : Int) + 1).toNat = i + 1 := by omega
      have hw1 : IntKind.i64.wrap ((i : Int) + 1) = (i : Int) + 1 := by rw [IntKind.wrap_i64]; omega
      have hp0 : (0 : Int) ≤ (i : Int) + 1 := by omega
      by_cases hc : tg + kg + km ≤ b
      · have HX := Lib.hid (QT.out hc)
        clear QT QS
        go_wp2_with fail
        go_quiet (fail)
        go_wp2_with fail
        go_region
        go_wp2_with fail
        have HB2 : Hid (Below B w ((wr.drewN (nq + 1)).setCell ⟨g, (i + 1) * 3 + 1, none⟩ (.int .i64 (kg + tg)))) := (below_drewN HB.out _).setCell hBg _
        refine (deleteR_any B g n c i _ _ (HS.out (nq + 1) (kg + tg)) q2).mono ?_
        rintro e w5 ⟨rfl, hO5, hb5⟩
        rw [HX.out] at hO5
        have HO5 := Lib.hid hO5
        have HB5 := Lib.hid (HB2.out.trans hb5)
        clear hO5 hb5 HB2 HS HF
        go_wp2
        go_roundw
        case rel => exact ⟨i, (i : Int) - 1, by omega, by omega, rfl, by go_num, HO5.out, HB5.out⟩
        case measure => simp [intOf]
      · have HX := Lib.hid (QS.out hc)
        clear QT QS
        go_wp2_with fail
        go_quiet (fail)
        go_wp2
        go_roundw
        case rel => exact ⟨i, (i : Int) - 1, by omega, by omega, rfl, by go_num, by rw [← HX.out]; exact HF.out, below_drewN HB.out _⟩
        case measure => simp [intOf]
    · have HX := Lib.hid (qpart_end (b := b) hj (by omega) hj1)
      rw [HX.out] at HO
      obtain ⟨R, cR, rfl, hP⟩ := HO.out.rp
      clear hP
      go_wp2
      go_ret
      exact ⟨_, rfl, HO.out, HB.out⟩
end Go.Proofs.Ytimcbeblmicioaa
