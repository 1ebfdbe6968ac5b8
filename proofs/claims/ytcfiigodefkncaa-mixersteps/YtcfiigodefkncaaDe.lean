import Derived.Test.YtcfiigodefkncaaDb
/- lotdrawerref.Int.QuoRem, of numbers that are not below 0: the two short ways. -/
namespace Go.Proofs.Ytcfiigodefkncaa
open Go.RowKit Go.Deep

/-- Only two blocks, and what is new, have turned. -/
structure Kq (g gr : Nat) (w w' : World) : Prop where
  os : w'.os = w.os
  tape : w'.tape = w.tape
  output : w'.output = w.output
  size : w.heap.size ≤ w'.heap.size
  block : ∀ i, i < w.heap.size → i ≠ g → i ≠ gr → w'.heap[i]? = w.heap[i]?
theorem Kq.of_below {g gr : Nat} {a b : World} (h : Below a.heap.size a b) : Kq g gr a b := ⟨h.os, h.tape, h.output, h.size, fun i hi _ _ => h.block i hi⟩
theorem Kq.below {g gr : Nat} {a b c : World} (h : Kq g gr a b) (k : Below b.heap.size b c) : Kq g gr a c :=
  ⟨k.os.trans h.os, k.tape.trans h.tape, k.output.trans h.output, Nat.le_trans h.size k.size, fun i hi h1 h2 => (k.block i (Nat.lt_of_lt_of_le hi h.size)).trans (h.block i hi h1 h2)⟩
theorem Kq.grown {g gr x : Nat} {a b c : World} (h : Kq g gr a b) (k : b.grownBy c (some x)) (hx : x = g ∨ x = gr) : Kq g gr a c :=
  ⟨k.os.trans h.os, k.tape.trans h.tape, k.output.trans h.output, Nat.le_trans h.size k.size, fun i hi h1 h2 => (k.block i (Nat.lt_of_lt_of_le hi h.size) (fun e => by
    injection e with e
    rcases hx with rfl | rfl
    · exact h1 e
    · exact h2 e)).trans (h.block i hi h1 h2)⟩
theorem Kq.trans {g gr : Nat} {a b c : World} (h : Kq g gr a b) (k : Kq g gr b c) : Kq g gr a c :=
  ⟨k.os.trans h.os, k.tape.trans h.tape, k.output.trans h.output, Nat.le_trans h.size k.size, fun i hi h1 h2 => (k.block i (Nat.lt_of_lt_of_le hi h.size) h1 h2).trans (h.block i hi h1 h2)⟩
theorem Kq.out {g gr : Nat} {w w' : World} (h : Kq g gr w w') (B : Nat) (a : World) (hb : Below B a w) (hB : B ≤ w.heap.size) (h1 : B ≤ g) (h2 : B ≤ gr) : Below B a w' :=
  hb.trans ⟨h.os, h.tape, h.output, h.size, fun i hi => h.block i (by omega) (by omega) (by omega)⟩
/-- What QuoRem leaves: only the two headers turn. -/
def QR (g gr X Y : Nat) (w : World) (e : Ending) (w' : World) : Prop :=
  e = .returned (.tuple #[.pointer (some ⟨g, 0, none⟩), .pointer (some ⟨gr, 0, none⟩)]) ∧ IsI w' g ((X / Y : Nat) : Int) ∧ IsI w' gr ((X % Y : Nat) : Int) ∧ Kq g gr w w'

theorem IsI.neg_cell {w : World} {g z : Nat} (h : IsI w g (z : Int)) : w.cell? ⟨g, 0, none⟩ = some (.bool false) ∧ w.frozen? ⟨g, 0, none⟩ = false := by
  obtain ⟨A, c, h1, _, _⟩ := h
  rw [show decide ((z : Int) < 0) = false from by simp] at h1
  exact ⟨h1.cell0, h1.frozen 0⟩
theorem IsI.neg0 {w : World} {g z : Nat} (h : IsI w g (z : Int)) : IsI (w.setCell ⟨g, 0, none⟩ (.bool false)) g (z : Int) ∧ w.grownBy (w.setCell ⟨g, 0, none⟩ (.bool false)) (some g) := by
  have G : w.grownBy (w.setCell ⟨g, 0, none⟩ (.bool false)) (some g) := grown_set (p := ⟨g, 0, none⟩) (grown_refl _ _) rfl _
  obtain ⟨A, c, h1, h2, h3⟩ := h
  refine ⟨⟨A, c, ?_, Wd_only h2 h1 G, h3⟩, G⟩
  rw [show decide ((z : Int) < 0) = false from by simp]
  exact h1.set0 false
theorem itrim_of {w : World} {g z : Nat} (h : IsI w g (z : Int)) (sz : Sz5 z) :
    Calls Try.prog 34 #[.pointer (some ⟨g, 0, none⟩)] w fun e w' => e = .returned (.pointer (some ⟨g, 0, none⟩)) ∧ IsI w' g (z : Int) ∧ w.grownBy w' (some g) := by
  obtain ⟨A, c, h1, h2, h3⟩ := h
  have hl : (H.words ((z : Int).natAbs)).length ≤ 100000 := digits_le (by rw [Int.natAbs_natCast]; exact sz.out)
  have C := itrim_is A c g (decide ((z : Int) < 0)) _ w h1 h2 (Nat.le_trans hl (by decide)) h3
  rw [H.val_words, sgn_self] at C
  exact C

set_option maxHeartbeats 1000000 in
theorem quo_low (g bx bY gr X Y : Nat) (w : World) (hg : IsH w g) (hr : IsH w gr) (hx : IsI w bx (X : Int)) (hy : IsI w bY (Y : Int)) (hne : g ≠ gr) (sx : Sz9 X) (sy : Sz9 Y) (hlt : X < Y) :
    Calls Try.prog 45 #[.pointer (some ⟨g, 0, none⟩), .pointer (some ⟨bx, 0, none⟩), .pointer (some ⟨bY, 0, none⟩), .pointer (some ⟨gr, 0, none⟩)] w fun e w' => QR g gr X Y w e w' := by
  have C1 := icmpAbs_any bx bY _ _ w hx hy (by rw [Int.natAbs_natCast]; exact sx.out) (by rw [Int.natAbs_natCast]; exact sy.out)
  rw [Int.natAbs_natCast, Int.natAbs_natCast, ord_lt hlt] at C1
  have HC1 := Lib.hid C1
  have HG := Lib.hid hg
  have HR := Lib.hid hr
  have HX := Lib.hid hx
  have SX := Lib.hid sx
  have HLT := Lib.hid hlt
  clear hg hr hx hy sx sy hlt C1
  go_enter Try.func45, Try.ntmps45
  go_wp2_with fail
  refine HC1.out.mono ?_
  rintro e w1 ⟨rfl, h1⟩
  have T1 := Lib.hid h1
  have C2 := Lib.hid (iset_any gr bx (X : Int) w1 (HR.out.below h1) (HX.out.below h1) (by rw [Int.natAbs_natCast]; exact SX.out.out))
  clear h1 HC1
  go_wp2_with fail
  refine C2.out.mono ?_
  rintro e w2 ⟨rfl, i2, g2⟩
  have I2 := Lib.hid i2
  have G2 := Lib.hid g2
  have IG : Hid (IsH w2 g) := (HG.out.below T1.out).only hne g2
  have C3 : Hid (Calls Try.prog 35 #[.pointer (some ⟨g, 0, none⟩), .int .i64 0] w2 fun e w' => e = .returned (.pointer (some ⟨g, 0, none⟩)) ∧ IsI w' g ((0 : Nat) : Int) ∧ w2.grownBy w' (some g)) := isetI_any g 0 w2 IG.out (by decide)
  clear i2 g2 C2
  go_wp2_with fail
  refine C3.out.mono ?_
  rintro e w3 ⟨rfl, i3, g3⟩
  have I3 := Lib.hid i3
  have G3 := Lib.hid g3
  clear i3 g3 C3
  go_wp2
  go_ret2
  refine ⟨rfl, by rw [Nat.div_eq_of_lt HLT.out]; exact I3.out, by rw [Nat.mod_eq_of_lt HLT.out]; exact I2.out.only IG.out (Ne.symm hne) G3.out, ?_⟩
  exact ((Kq.of_below T1.out).grown G2.out (.inr rfl)).grown G3.out (.inl rfl)

set_option maxRecDepth 100000 in
set_option maxHeartbeats 1000000 in
theorem quo_short (g bx bY gr X Y : Nat) (w : World) (hg : IsH w g) (hr : IsH w gr) (hx : IsI w bx (X : Int)) (hy : IsI w bY (Y : Int)) (hne : g ≠ gr) (hgx : g ≠ bx) (hgy : g ≠ bY) (hX : X < Bw) (hY : 0 < Y) (hle : Y ≤ X) :
    Calls Try.prog 45 #[.pointer (some ⟨g, 0, none⟩), .pointer (some ⟨bx, 0, none⟩), .pointer (some ⟨bY, 0, none⟩), .pointer (some ⟨gr, 0, none⟩)] w fun e w' => QR g gr X Y w e w' := by
  have sX : Sz9 X := (sz_word hX).nine
  have sY : Sz9 Y := (sz_word (Nat.lt_of_le_of_lt hle hX)).nine
  have C1 := icmpAbs_any bx bY _ _ w hx hy (by rw [Int.natAbs_natCast]; exact sX.out) (by rw [Int.natAbs_natCast]; exact sY.out)
  rw [Int.natAbs_natCast, Int.natAbs_natCast] at C1
  have ho : 0 ≤ ord X Y := by unfold ord; rw [if_neg (by omega)]; split <;> decide
  obtain ⟨o, hoo⟩ : ∃ o, o = ord X Y := ⟨_, rfl⟩
  rw [← hoo] at C1 ho
  have HC1 := Lib.hid C1
  have HG := Lib.hid hg
  have HR := Lib.hid hr
  have HX := Lib.hid hx
  have HY := Lib.hid hy
  have hlen : (H.words X).length ≤ 2 := (H.words_len _ _).2 (by exact hX)
  obtain ⟨k, hk⟩ : ∃ k, k = (H.words X).length := ⟨_, rfl⟩
  rw [← hk] at hlen
  have HK := Lib.hid hk
  have HLE := Lib.hid hle
  have HXB := Lib.hid hX
  clear hg hr hx hy hle C1 hoo hk hX sX sY
  go_enter Try.func45, Try.ntmps45
  go_wp2_with fail
  refine HC1.out.mono ?_
  rintro e w1 ⟨rfl, h1⟩
  have T1 := Lib.hid h1
  have X1 := Lib.hid (HX.out.below h1)
  have Y1 := Lib.hid (HY.out.below h1)
  obtain ⟨A, ca, x0, x1, xa, xb⟩ := X1.out.open_
  obtain ⟨B', cb', y0, ya, yb, yc⟩ := Y1.out.open_
  clear xa xb ya yb yc
  rw [show decide ((X : Int) < 0) = false from by simp] at x0
  rw [show decide ((Y : Int) < 0) = false from by simp] at y0
  rw [Int.natAbs_natCast, ← HK.out] at x1
  clear h1 HC1
  go_wp2_with fail
  go_quiet (fail)
  have BD : Hid (Below w1.heap.size w1 (w1.drewN nq)) := below_drewN (Below.refl _ _) _
  generalize w1.drewN nq = w2 at BD ⊢
  have X2 := Lib.hid (X1.out.below BD.out)
  have Y2 := Lib.hid (Y1.out.below BD.out)
  obtain ⟨A2, ca2, x20, x21, xa, xb⟩ := X2.out.open_
  rw [Int.natAbs_natCast, ← HK.out] at x21
  clear xa xb x0 x1 y0 x20
  have e1 : X % 18446744073709551616 = X := Nat.mod_eq_of_lt HXB.out
  have e2 : Y % 18446744073709551616 = Y := Nat.mod_eq_of_lt (Nat.lt_of_le_of_lt HLE.out HXB.out)
  have D1 := iuint_any bx X w2 X2.out (sz_word HXB.out).nine.out
  have D2 := iuint_any bY Y w2 Y2.out (sz_word (Nat.lt_of_le_of_lt HLE.out HXB.out)).nine.out
  rw [e1] at D1
  rw [e2] at D2
  have C2 := Lib.hid D1
  have C3 := Lib.hid D2
  have hYz := eqz_no (x := Y) (by omega)
  have hq : (X : Int) / (Y : Int) = ((X / Y : Nat) : Int) := (Int.natCast_ediv _ _).symm
  have hm : (X : Int) % (Y : Int) = ((X % Y : Nat) : Int) := (Int.natCast_emod _ _).symm
  have qB : X / Y < 18446744073709551616 := Nat.lt_of_le_of_lt (Nat.div_le_self _ _) HXB.out
  have mB : X % Y < 18446744073709551616 := Nat.lt_of_le_of_lt (Nat.mod_le _ _) HXB.out
  obtain ⟨Q, hQ⟩ : ∃ Q, Q = X / Y := ⟨_, rfl⟩
  obtain ⟨M, hM⟩ : ∃ M, M = X % Y := ⟨_, rfl⟩
  rw [← hQ] at hq qB
  rw [← hM] at hm mB
  have HQ := Lib.hid hQ
  have HM := Lib.hid hM
  have IG2 : Hid (IsH w2 g) := (HG.out.below T1.out).below BD.out
  have IR2 : Hid (IsH w2 gr) := (HR.out.below T1.out).below BD.out
  have C4 := Lib.hid (isetU_any g Q w2 IG2.out qB)
  have QB := Lib.hid qB
  have MB := Lib.hid mB
  clear e1 e2 D1 D2 hQ hM
  go_wp2_with fail
  refine C2.out.mono ?_
  rintro e w' ⟨rfl, rfl⟩
  go_wp2_with fail
  refine C3.out.mono ?_
  rintro e w' ⟨rfl, rfl⟩
  go_wp2_with fail
  refine C4.out.mono ?_
  rintro e w3 ⟨rfl, i3, g3⟩
  have I3 := Lib.hid i3
  have G3 := Lib.hid g3
  have C5 := Lib.hid (isetU_any gr M w3 (IR2.out.only (Ne.symm hne) g3) MB.out)
  clear i3 g3 C2 C3 C4 x21
  go_wp2_with fail
  refine C5.out.mono ?_
  rintro e w4 ⟨rfl, i4, g4⟩
  have I4 := Lib.hid i4
  have G4 := Lib.hid g4
  have J4 : Hid (IsI w4 g (Q : Int)) := I3.out.only (IR2.out.only (Ne.symm hne) G3.out) hne g4
  obtain ⟨z0, f0⟩ := J4.out.neg_cell
  obtain ⟨y0, f1⟩ := I4.out.neg_cell
  obtain ⟨n1, n2⟩ := J4.out.neg0
  have n3 := I4.out.only J4.out.hd (Ne.symm hne) n2
  obtain ⟨n4, n5⟩ := n3.neg0
  have n6 := n1.only n3.hd hne n5
  have C6 := Lib.hid (itrim_of n6 (sz_word QB.out))
  have N5 := Lib.hid n5
  have N2 := Lib.hid n2
  have N4 := Lib.hid n4
  have N6 := Lib.hid n6
  clear i4 g4 C5 n1 n2 n3 n4 n5 n6
  go_wp2_with fail
  refine C6.out.mono ?_
  rintro e w6 ⟨rfl, i6, g6⟩
  have I6 := Lib.hid i6
  have G6 := Lib.hid g6
  have M6 : Hid (IsI w6 gr (M : Int)) := N4.out.only N6.out.hd (Ne.symm hne) g6
  have C7 := Lib.hid (itrim_of M6.out (sz_word MB.out))
  clear i6 g6 C6
  go_wp2_with fail
  refine C7.out.mono ?_
  rintro e w7 ⟨rfl, i7, g7⟩
  have I7 := Lib.hid i7
  have G7 := Lib.hid g7
  clear i7 g7 C7
  go_wp2
  go_ret2
  refine ⟨rfl, by rw [← HQ.out]; exact I6.out.only M6.out.hd hne G7.out, by rw [← HM.out]; exact I7.out, ?_⟩
  exact ((((((((Kq.of_below T1.out).below BD.out).grown G3.out (.inl rfl)).grown G4.out (.inr rfl)).grown N2.out (.inl rfl)).grown N5.out (.inr rfl)).grown G6.out (.inl rfl)).grown G7.out (.inr rfl))
end Go.Proofs.Ytcfiigodefkncaa
