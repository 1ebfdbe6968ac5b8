import Derived.Test.YtcfiigodefkncaaMxb
/- lotdrawerref.LMix: the walk. -/
namespace Go.Proofs.Ytcfiigodefkncaa
open Go.RowKit Go.Deep

set_option maxRecDepth 100000 in
set_option maxHeartbeats 4000000 in
theorem lmix_any (x : W64) (w : World) : Calls Try.prog 23 #[.int .u64 (x.toNat : Int)] w fun e w' => e = .returned (.int .u64 ((mix x).toNat : Int)) ∧ Below w.heap.size w w' := by
  have hb0 := below_hdr w
  have C1 := Lib.hid (newI 1 (w.alloc (.cells #[.bool false, .slice none 0 0] 53)) (by decide))
  have hd0 := (IsI.new w).hd
  have HD0 := Lib.hid hd0
  have HB0 := Lib.hid hb0
  have hxl := x.isLt
  clear hb0 hd0
  obtain ⟨w0, hw0⟩ : ∃ w0, w.alloc (.cells #[.bool false, .slice none 0 0] 53) = w0 := ⟨_, rfl⟩
  have hs0 : w0.heap.size = w.heap.size + 1 := by rw [← hw0]; simp
  have HS0 := Lib.hid hs0
  rw [hw0] at C1 HD0 HB0
  go_enter Try.func23, Try.ntmps23
  go_wp2_with fail
  refine C1.out.mono ?_
  rintro e w1 ⟨rfl, i1, b1⟩
  have C2 : Hid (Calls Try.prog 25 #[.pointer (some ⟨w.heap.size, 0, none⟩), .pointer (some ⟨w0.heap.size, 0, none⟩), .int .u64 64] w1 fun e w' => e = .returned (.pointer (some ⟨w.heap.size, 0, none⟩)) ∧ IsI w' w.heap.size ((18446744073709551616 : Nat) : Int) ∧ w1.grownBy w' (some w.heap.size)) := ilsh_any w.heap.size w0.heap.size 64 1 w1 (HD0.out.below b1) i1 (pow_up (a := 1) (b := 400000) (by decide) (by decide)) (by decide)
  have HB1 := Lib.hid (HB0.out.trans (b1.mono (by omega)))
  clear i1 b1 C1 HD0 hs0 hw0
  go_wp2_with fail
  refine C2.out.mono ?_
  rintro e w2 ⟨rfl, i2, g2⟩
  have HB2 := Lib.hid (below_grown HB1.out g2 HB1.out.size (Nat.le_refl _))
  have I2 := Lib.hid i2
  have C3 := Lib.hid (newU x.toNat w2 hxl)
  clear i2 g2 C2 HB1
  go_wp2_with fail
  refine C3.out.mono ?_
  rintro e w3 ⟨rfl, i3, b3⟩
  have HL3 : Hid (LI w w.heap.size w2.heap.size w3.heap.size x.toNat (w3.alloc (.cells #[.int .u64 30, .int .u64 13787848793156543929, .int .u64 27, .int .u64 10723151780598845931, .int .u64 31, .int .u64 1] 57))) := by
    have hb : Below w3.heap.size w3 (w3.alloc (.cells #[.int .u64 30, .int .u64 13787848793156543929, .int .u64 27, .int .u64 10723151780598845931, .int .u64 31, .int .u64 1] 57)) := (Below.refl _ _).alloc (Nat.le_refl _) _
    have l1 := I2.out.lt
    have l2 := i3.lt
    exact ⟨(I2.out.below b3).below hb, i3.below hb, heap_alloc_new _ _, (HB2.out.trans (b3.mono HB2.out.size)).trans (hb.mono (Nat.le_trans HB2.out.size b3.size)), by omega, by omega, HB2.out.size⟩
  clear i3 b3 C3 I2 HB0 HB2
  go_wp2_with fail
  obtain ⟨w4, hw4⟩ : ∃ w4, w3.alloc (.cells #[.int .u64 30, .int .u64 13787848793156543929, .int .u64 27, .int .u64 10723151780598845931, .int .u64 31, .int .u64 1] 57) = w4 := ⟨_, rfl⟩
  rw [hw4] at HL3 ⊢
  generalize w.heap.size = ga at *
  generalize w2.heap.size = gn at *
  generalize w3.heap.size = gS at *
  clear hw4
  go_loopw [18] (fun iv wr => (iv = .int .i64 0 ∧ LI w ga gn gS x.toNat wr) ∨ (iv = .int .i64 1 ∧ LI w ga gn gS (shx 30 x * K1).toNat wr) ∨ (iv = .int .i64 2 ∧ LI w ga gn gS (shx 27 (shx 30 x * K1) * K2).toNat wr) ∨ (iv = .int .i64 3 ∧ LI w ga gn gS (mix x).toNat wr)) (fun iv _ => 3 - (intOf iv).toNat)
  case atStart => exact .inl ⟨rfl, HL3.out⟩
  case round =>
    clear HL3
    rcases hrel with ⟨rfl, hL⟩ | ⟨rfl, hL⟩ | ⟨rfl, hL⟩ | ⟨rfl, hL⟩
    · have HL := Lib.hid hL
      have c0 : wr.cell? ⟨gS, 0, none⟩ = some (.int .u64 30) := by rw [cell_of_row wr gS 0 _ _ (0, 0) hL.s]; rfl
      have c1 : wr.cell? ⟨gS, 1, none⟩ = some (.int .u64 13787848793156543929) := by rw [cell_of_row wr gS 1 _ _ (0, 0) hL.s]; rfl
      have hb0 : Below wr.heap.size wr (wr.alloc (.cells #[.int .u64 30, .int .u64 13787848793156543929] 57)) := (Below.refl _ _).alloc (Nat.le_refl _) _
      obtain ⟨wv, hwv⟩ : ∃ wv, wv = wr.alloc (.cells #[.int .u64 30, .int .u64 13787848793156543929] 57) := ⟨_, rfl⟩
      have hvs : wv.heap.size = wr.heap.size + 1 := by rw [hwv]; simp
      have HX : Hid (BX wv wr.heap.size 30 13787848793156543929) := by show BX _ _ _ _; rw [hwv]; exact BX.new _ _ _
      have hLv : LI w ga gn gS _ wv := hL.below (by rw [hwv]; exact hb0)
      have hgl := hL.n.lt
      have hR := lr_rsh (k := 30) hLv (by decide)
      have HLV := Lib.hid hLv
      have HNE : Hid (wr.heap.size ≠ gn) := by show _ ≠ _; omega
      have HRS : Hid (wr.heap.size < wv.heap.size) := by show _ < _; omega
      rw [hvs, hwv] at hR
      have HR := Lib.hid hR
      clear hR hLv hgl hb0 hL
      go_wp2_with fail
      refine HR.out.mono ?_
      rintro e w5 ⟨rfl, i5, b5⟩
      rw [← hwv, ← hvs] at b5
      rw [← hvs] at i5
      have HL5 := Lib.hid (HLV.out.below b5)
      have HX5 : Hid (BX w5 wr.heap.size _ _) := (b5.block _ HRS.out).trans HX.out
      have HC := Lib.hid (lr_xor (k := 30) HL5.out i5)
      rw [hvs] at HC
      clear i5 b5 HR HX HLV HRS c0 c1 hvs hwv
      go_wp2_with fail
      refine HC.out.mono ?_
      rintro e w6 ⟨rfl, hL6, g6⟩
      have HX6 : Hid (BX w6 wr.heap.size _ _) := (g6.block _ (lt_of_block HX5.out) (fun e => HNE.out (by cases e; rfl))).trans HX5.out
      have HL6 := Lib.hid hL6
      have hx7 : BX (w6.alloc (.cells #[.bool false, .slice none 0 0] 53)) wr.heap.size _ _ := (heap_alloc_old w6 _ (lt_of_block HX6.out)).trans HX6.out
      have cx := hx7.c1
      have HU : Hid (Calls Try.prog 27 #[.pointer (some ⟨w6.heap.size, 0, none⟩), .int .u64 13787848793156543929] (w6.alloc (.cells #[.bool false, .slice none 0 0] 53)) fun e w' => e = .returned (.pointer (some ⟨w6.heap.size, 0, none⟩)) ∧ IsI w' w6.heap.size ((K1 : W64).toNat : Int) ∧ Below w6.heap.size w6 w') := newU (K1 : W64).toNat w6 (K1 : W64).isLt
      clear hL6 g6 HC HL5 HX5
      go_wp2_with fail
      refine HU.out.mono ?_
      rintro e w7 ⟨rfl, i7, b7⟩
      have HL7 := Lib.hid (HL6.out.below b7)
      have HM := Lib.hid (lr_mul HL7.out i7)
      clear i7 b7 HU HL6 HX6 cx hx7
      go_wp2_with fail
      refine HM.out.mono ?_
      rintro e w8 ⟨rfl, hL8, _⟩
      have HD := Lib.hid (lr_mod hL8)
      clear hL8 HM HL7
      go_wp2_with fail
      refine HD.out.mono ?_
      rintro e w9 ⟨rfl, hL9, _⟩
      have HL9 := Lib.hid hL9
      clear hL9 HD
      go_wp2
      go_roundw
      case rel => exact .inr (.inl ⟨rfl, HL9.out⟩)
      case measure => simp [intOf]
    · have HL := Lib.hid hL
      have c0 : wr.cell? ⟨gS, 2, none⟩ = some (.int .u64 27) := by rw [cell_of_row wr gS 2 _ _ (0, 0) hL.s]; rfl
      have c1 : wr.cell? ⟨gS, 3, none⟩ = some (.int .u64 10723151780598845931) := by rw [cell_of_row wr gS 3 _ _ (0, 0) hL.s]; rfl
      have hb0 : Below wr.heap.size wr (wr.alloc (.cells #[.int .u64 27, .int .u64 10723151780598845931] 57)) := (Below.refl _ _).alloc (Nat.le_refl _) _
      obtain ⟨wv, hwv⟩ : ∃ wv, wv = wr.alloc (.cells #[.int .u64 27, .int .u64 10723151780598845931] 57) := ⟨_, rfl⟩
      have hvs : wv.heap.size = wr.heap.size + 1 := by rw [hwv]; simp
      have HX : Hid (BX wv wr.heap.size 27 10723151780598845931) := by show BX _ _ _ _; rw [hwv]; exact BX.new _ _ _
      have hLv : LI w ga gn gS _ wv := hL.below (by rw [hwv]; exact hb0)
      have hgl := hL.n.lt
      have hR := lr_rsh (k := 27) hLv (by decide)
      have HLV := Lib.hid hLv
      have HNE : Hid (wr.heap.size ≠ gn) := by show _ ≠ _; omega
      have HRS : Hid (wr.heap.size < wv.heap.size) := by show _ < _; omega
      rw [hvs, hwv] at hR
      have HR := Lib.hid hR
      clear hR hLv hgl hb0 hL
      go_wp2_with fail
      refine HR.out.mono ?_
      rintro e w5 ⟨rfl, i5, b5⟩
      rw [← hwv, ← hvs] at b5
      rw [← hvs] at i5
      have HL5 := Lib.hid (HLV.out.below b5)
      have HX5 : Hid (BX w5 wr.heap.size _ _) := (b5.block _ HRS.out).trans HX.out
      have HC := Lib.hid (lr_xor (k := 27) HL5.out i5)
      rw [hvs] at HC
      clear i5 b5 HR HX HLV HRS c0 c1 hvs hwv
      go_wp2_with fail
      refine HC.out.mono ?_
      rintro e w6 ⟨rfl, hL6, g6⟩
      have HX6 : Hid (BX w6 wr.heap.size _ _) := (g6.block _ (lt_of_block HX5.out) (fun e => HNE.out (by cases e; rfl))).trans HX5.out
      have HL6 := Lib.hid hL6
      have hx7 : BX (w6.alloc (.cells #[.bool false, .slice none 0 0] 53)) wr.heap.size _ _ := (heap_alloc_old w6 _ (lt_of_block HX6.out)).trans HX6.out
      have cx := hx7.c1
      have HU : Hid (Calls Try.prog 27 #[.pointer (some ⟨w6.heap.size, 0, none⟩), .int .u64 10723151780598845931] (w6.alloc (.cells #[.bool false, .slice none 0 0] 53)) fun e w' => e = .returned (.pointer (some ⟨w6.heap.size, 0, none⟩)) ∧ IsI w' w6.heap.size ((K2 : W64).toNat : Int) ∧ Below w6.heap.size w6 w') := newU (K2 : W64).toNat w6 (K2 : W64).isLt
      clear hL6 g6 HC HL5 HX5
      go_wp2_with fail
      refine HU.out.mono ?_
      rintro e w7 ⟨rfl, i7, b7⟩
      have HL7 := Lib.hid (HL6.out.below b7)
      have HM := Lib.hid (lr_mul HL7.out i7)
      clear i7 b7 HU HL6 HX6 cx hx7
      go_wp2_with fail
      refine HM.out.mono ?_
      rintro e w8 ⟨rfl, hL8, _⟩
      have HD := Lib.hid (lr_mod hL8)
      clear hL8 HM HL7
      go_wp2_with fail
      refine HD.out.mono ?_
      rintro e w9 ⟨rfl, hL9, _⟩
      have HL9 := Lib.hid hL9
      clear hL9 HD
      go_wp2
      go_roundw
      case rel => exact .inr (.inr (.inl ⟨rfl, HL9.out⟩))
      case measure => simp [intOf]
    · have HL := Lib.hid hL
      have c0 : wr.cell? ⟨gS, 4, none⟩ = some (.int .u64 31) := by rw [cell_of_row wr gS 4 _ _ (0, 0) hL.s]; rfl
      have c1 : wr.cell? ⟨gS, 5, none⟩ = some (.int .u64 1) := by rw [cell_of_row wr gS 5 _ _ (0, 0) hL.s]; rfl
      have hb0 : Below wr.heap.size wr (wr.alloc (.cells #[.int .u64 31, .int .u64 1] 57)) := (Below.refl _ _).alloc (Nat.le_refl _) _
      obtain ⟨wv, hwv⟩ : ∃ wv, wv = wr.alloc (.cells #[.int .u64 31, .int .u64 1] 57) := ⟨_, rfl⟩
      have hvs : wv.heap.size = wr.heap.size + 1 := by rw [hwv]; simp
      have HX : Hid (BX wv wr.heap.size 31 1) := by show BX _ _ _ _; rw [hwv]; exact BX.new _ _ _
      have hLv : LI w ga gn gS _ wv := hL.below (by rw [hwv]; exact hb0)
      have hgl := hL.n.lt
      have hR := lr_rsh (k := 31) hLv (by decide)
      have HLV := Lib.hid hLv
      have HNE : Hid (wr.heap.size ≠ gn) := by show _ ≠ _; omega
      have HRS : Hid (wr.heap.size < wv.heap.size) := by show _ < _; omega
      rw [hvs, hwv] at hR
      have HR := Lib.hid hR
      clear hR hLv hgl hb0 hL
      go_wp2_with fail
      refine HR.out.mono ?_
      rintro e w5 ⟨rfl, i5, b5⟩
      rw [← hwv, ← hvs] at b5
      rw [← hvs] at i5
      have HL5 := Lib.hid (HLV.out.below b5)
      have HX5 : Hid (BX w5 wr.heap.size _ _) := (b5.block _ HRS.out).trans HX.out
      have HC := Lib.hid (lr_xor (k := 31) HL5.out i5)
      rw [hvs] at HC
      clear i5 b5 HR HX HLV HRS c0 c1 hvs hwv
      go_wp2_with fail
      refine HC.out.mono ?_
      rintro e w6 ⟨rfl, hL6, g6⟩
      have HX6 : Hid (BX w6 wr.heap.size _ _) := (g6.block _ (lt_of_block HX5.out) (fun e => HNE.out (by cases e; rfl))).trans HX5.out
      have HL6 := Lib.hid hL6
      have hx7 : BX (w6.alloc (.cells #[.bool false, .slice none 0 0] 53)) wr.heap.size _ _ := (heap_alloc_old w6 _ (lt_of_block HX6.out)).trans HX6.out
      have cx := hx7.c1
      have HU : Hid (Calls Try.prog 27 #[.pointer (some ⟨w6.heap.size, 0, none⟩), .int .u64 1] (w6.alloc (.cells #[.bool false, .slice none 0 0] 53)) fun e w' => e = .returned (.pointer (some ⟨w6.heap.size, 0, none⟩)) ∧ IsI w' w6.heap.size ((1 : W64).toNat : Int) ∧ Below w6.heap.size w6 w') := newU (1 : W64).toNat w6 (1 : W64).isLt
      clear hL6 g6 HC HL5 HX5
      go_wp2_with fail
      refine HU.out.mono ?_
      rintro e w7 ⟨rfl, i7, b7⟩
      have HL7 := Lib.hid (HL6.out.below b7)
      have HM := Lib.hid (lr_mul HL7.out i7)
      clear i7 b7 HU HL6 HX6 cx hx7
      go_wp2_with fail
      refine HM.out.mono ?_
      rintro e w8 ⟨rfl, hL8, _⟩
      have HD := Lib.hid (lr_mod hL8)
      clear hL8 HM HL7
      go_wp2_with fail
      refine HD.out.mono ?_
      rintro e w9 ⟨rfl, hL9, _⟩
      have HL9 := Lib.hid hL9
      clear hL9 HD
      go_wp2
      go_roundw
      case rel => exact .inr (.inr (.inr ⟨rfl, by have := HL9.out; rwa [mul_one_w] at this⟩))
      case measure => simp [intOf]
    · have HB := Lib.hid hL.b
      have HU := iuint_any gn (mix x).toNat wr hL.n (bw5 (mix x).isLt)
      rw [Nat.mod_eq_of_lt (mix x).isLt] at HU
      have HU := Lib.hid HU
      clear hL
      go_wp2_with fail
      refine HU.out.mono ?_
      rintro e w9 ⟨rfl, rfl⟩
      go_wp2
      go_ret
      exact ⟨rfl, HB.out⟩
end Go.Proofs.Ytcfiigodefkncaa
