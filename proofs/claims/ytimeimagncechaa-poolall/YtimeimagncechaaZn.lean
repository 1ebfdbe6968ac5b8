/- lotdrawerlaw.PoolAll: the walk. -/
import Derived.Test.YtimeimagncechaaZe
import Derived.Test.YtimeimagncechaaZf
import Derived.Test.YtimeimagncechaaZi
import Derived.Test.YtimeimagncechaaZj
import Derived.Test.YtimeimagncechaaZm
namespace Go.Proofs.Ytimeimagncechaa
open Go.RowKit Go.Deep

set_option maxRecDepth 100000 in
set_option maxHeartbeats 8000000 in
theorem poolAll_walk (room : Int) (L : Option Addr) (cl : Nat) (l : List Int) (D : Option Addr) (cd : Nat) (ds : List Int) (r c : Int) (A : Option Addr) (ca : Nat) (xs : List Int) (w : World) (hl : IP w L cl l) (hd : IP w D cd ds) (hx : IP w A ca xs) :
    Calls Try.prog 4 #[.int .i64 room, .slice L l.length cl, .slice D ds.length cd, pv r c (.slice A xs.length ca)] w fun e w' => e = .returned (.bool true) ∧ Below w.heap.size w w' := by
  have hb0 : Below w.heap.size w (w.alloc (.cells #[.int .i64 r, .int .i64 c, .slice A xs.length ca] 24)) := (Below.refl _ _).alloc (Nat.le_refl _) _
  have C1 : Hid (∀ w', IP w' L cl l → IP w' D cd ds → Calls Try.prog 16 #[.int .i64 room, .slice L l.length cl, .slice D ds.length cd] w' (PPost w'.heap.size w' (allR room l ds))) := fun w' h1 h2 => poolAll_any room L cl l D cd ds w' h1 h2
  have C2 : Hid (∀ w', IP w' L cl l → IP w' D cd ds → Calls Try.prog 17 #[.int .i64 room, .slice L l.length cl, .slice D ds.length cd] w' (PPost w'.heap.size w' (allR room l ds))) := fun w' h1 h2 => fAll_any room L cl l D cd ds w' h1 h2
  have C3 : Hid (∀ w', IP w' A ca xs → IP w' D cd ds → Calls Try.prog 18 #[.agg #[.int .i64 r, .int .i64 c, .slice A xs.length ca], .int .i64 room, .slice D ds.length cd] w' (PPost w'.heap.size w' (lessR r c xs room ds))) := fun w' h1 h2 => smaller_any r c A ca xs room D cd ds w' h1 h2
  have C4 : Hid (∀ w', IP w' A ca xs → IP w' D cd ds → Calls Try.prog 19 #[.agg #[.int .i64 r, .int .i64 c, .slice A xs.length ca], .int .i64 room, .slice D ds.length cd] w' (PPost w'.heap.size w' (lessR r c xs room ds))) := fun w' h1 h2 => fSmaller_any r c A ca xs room D cd ds w' h1 h2
  generalize allR room l ds = q at *
  obtain ⟨⟨qr, qc, ys⟩, qe⟩ := q
  generalize lessR r c xs room ds = s at *
  obtain ⟨⟨sr, sc, zs⟩, se⟩ := s
  have he1 : (qe == qe) = true := by simp
  have he2 : (se == se) = true := by simp
  have HB := Lib.hid hb0
  have HL := Lib.hid (hl.later hb0)
  have HD := Lib.hid (hd.later hb0)
  have HX := Lib.hid (hx.later hb0)
  have HP := Lib.hid (PB.new w r c (.slice A xs.length ca))
  clear hl hd hx hb0
  unfold pv
  go_enter Try.func4, Try.ntmps4
  go_wp2_with fail
  refine (C1.out _ HL.out HD.out).mono ?_
  rintro e w1 ⟨v, rfl, hO, hb⟩
  obtain ⟨R1, cr1, rfl⟩ := hO.shape
  obtain ⟨_, _, e, hI⟩ := hO.ip
  cases e
  have b4 : Below w1.heap.size w1 (w1.alloc (.cells #[.int .i64 qr, .int .i64 qc, .slice R1 ys.length cr1] 24)) := (Below.refl _ _).alloc (Nat.le_refl _) _
  have hb2 := hb.trans (b4.mono hb.size)
  have HB := Lib.hid (HB.out.trans (hb2.mono HB.out.size))
  have HL := Lib.hid (HL.out.later hb2)
  have HD := Lib.hid (HD.out.later hb2)
  have HX := Lib.hid (HX.out.later hb2)
  have HP := Lib.hid (HP.out.later hb2)
  have HI1 := Lib.hid (hI.later b4)
  have HP1 := Lib.hid (PB.new w1 qr qc (.slice R1 ys.length cr1))
  clear hb b4 hb2 hI hO C1
  unfold pv
  go_wp2_with fail
  refine (C2.out _ HL.out HD.out).mono ?_
  rintro e w2 ⟨v, rfl, hO, hb⟩
  obtain ⟨R2, cr2, rfl⟩ := hO.shape
  obtain ⟨_, _, e, hI⟩ := hO.ip
  cases e
  have b4 : Below w2.heap.size w2 (w2.alloc (.cells #[.int .i64 qr, .int .i64 qc, .slice R2 ys.length cr2] 24)) := (Below.refl _ _).alloc (Nat.le_refl _) _
  have hb2 := hb.trans (b4.mono hb.size)
  have HB := Lib.hid (HB.out.trans (hb2.mono HB.out.size))
  have HD := Lib.hid (HD.out.later hb2)
  have HX := Lib.hid (HX.out.later hb2)
  have HP := Lib.hid (HP.out.later hb2)
  have HI1 := Lib.hid (HI1.out.later hb2)
  have HP1 := Lib.hid (HP1.out.later hb2)
  have HI2 := Lib.hid (hI.later b4)
  have HP2 := Lib.hid (PB.new w2 qr qc (.slice R2 ys.length cr2))
  obtain ⟨c0, c1, c2, _, _, _⟩ := HP.out.at
  clear hb b4 hb2 hI hO C2
  unfold pv
  go_wp2_with fail
  refine (C3.out _ HX.out HD.out).mono ?_
  rintro e w3 ⟨v, rfl, hO, hb⟩
  obtain ⟨R3, cr3, rfl⟩ := hO.shape
  obtain ⟨_, _, e, hI⟩ := hO.ip
  cases e
  have b4 : Below w3.heap.size w3 (w3.alloc (.cells #[.int .i64 sr, .int .i64 sc, .slice R3 zs.length cr3] 24)) := (Below.refl _ _).alloc (Nat.le_refl _) _
  have hb2 := hb.trans (b4.mono hb.size)
  have HB := Lib.hid (HB.out.trans (hb2.mono HB.out.size))
  have HD := Lib.hid (HD.out.later hb2)
  have HX := Lib.hid (HX.out.later hb2)
  have HP := Lib.hid (HP.out.later hb2)
  have HI1 := Lib.hid (HI1.out.later hb2)
  have HP1 := Lib.hid (HP1.out.later hb2)
  have HI2 := Lib.hid (HI2.out.later hb2)
  have HP2 := Lib.hid (HP2.out.later hb2)
  have HI3 := Lib.hid (hI.later b4)
  have HP3 := Lib.hid (PB.new w3 sr sc (.slice R3 zs.length cr3))
  clear c0 c1 c2
  obtain ⟨c0, c1, c2, _, _, _⟩ := HP.out.at
  clear hb b4 hb2 hI hO C3
  unfold pv
  go_wp2_with fail
  refine (C4.out _ HX.out HD.out).mono ?_
  rintro e w4 ⟨v, rfl, hO, hb⟩
  obtain ⟨R4, cr4, rfl⟩ := hO.shape
  obtain ⟨_, _, e, hI⟩ := hO.ip
  cases e
  have b4 : Below w4.heap.size w4 (w4.alloc (.cells #[.int .i64 sr, .int .i64 sc, .slice R4 zs.length cr4] 24)) := (Below.refl _ _).alloc (Nat.le_refl _) _
  have hb2 := hb.trans (b4.mono hb.size)
  have HB := Lib.hid (HB.out.trans (hb2.mono HB.out.size))
  have HI1 := Lib.hid (HI1.out.later hb2)
  have HP1 := Lib.hid (HP1.out.later hb2)
  have HI2 := Lib.hid (HI2.out.later hb2)
  have HP2 := Lib.hid (HP2.out.later hb2)
  have HI3 := Lib.hid (HI3.out.later hb2)
  have HP3 := Lib.hid (HP3.out.later hb2)
  have HI4 := Lib.hid (hI.later b4)
  have HP4 := Lib.hid (PB.new w4 sr sc (.slice R4 zs.length cr4))
  have CS := Lib.hid (samePool_any qr qc qr qc R1 R2 cr1 cr2 ys ys _ HI1.out HI2.out)
  rw [sameB_self] at CS
  unfold pv at CS
  clear c0 c1 c2
  obtain ⟨c0, c1, c2, _, _, _⟩ := HP1.out.at
  obtain ⟨d0, d1, d2, _, _, _⟩ := HP2.out.at
  clear hb b4 hb2 hI hO C4 HX HD HP HL
  unfold pv
  go_wp2_with fail
  refine CS.out.mono ?_
  rintro e w5 ⟨rfl, hb⟩
  have HB := Lib.hid (HB.out.trans (hb.mono HB.out.size))
  have CT := Lib.hid (samePool_any sr sc sr sc R3 R4 cr3 cr4 zs zs w5 (HI3.out.later hb) (HI4.out.later hb))
  rw [sameB_self] at CT
  unfold pv at CT
  clear c0 c1 c2 d0 d1 d2
  obtain ⟨c0, c1, c2, _, _, _⟩ := (HP3.out.later hb).at
  obtain ⟨d0, d1, d2, _, _, _⟩ := (HP4.out.later hb).at
  clear hb CS
  go_wp2_with fail
  refine CT.out.mono ?_
  rintro e w6 ⟨rfl, hb⟩
  have HB := Lib.hid (HB.out.trans (hb.mono HB.out.size))
  clear hb CT
  go_wp2
  go_ret
  exact ⟨rfl, HB.out⟩
end Go.Proofs.Ytimeimagncechaa
