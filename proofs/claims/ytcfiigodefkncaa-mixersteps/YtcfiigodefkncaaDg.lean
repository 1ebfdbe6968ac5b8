import Derived.Test.YtcfiigodefkncaaDf
/- lotdrawerref.Int.DivMod, of numbers that are not below 0. -/
namespace Go.Proofs.Ytcfiigodefkncaa
open Go.RowKit Go.Deep

theorem quo_any (g bx bY gr X Y : Nat) (w : World) (hg : IsH w g) (hr : IsH w gr) (hx : IsI w bx (X : Int)) (hy : IsI w bY (Y : Int)) (hne : g ≠ gr) (hgx : g ≠ bx) (hgy : g ≠ bY) (sX : Sz9 X) (sY : Sz9 Y) (hY : 0 < Y) (HP : 3 ≤ (H.words X).length → PartsOk X Y) :
    Calls Try.prog 45 #[.pointer (some ⟨g, 0, none⟩), .pointer (some ⟨bx, 0, none⟩), .pointer (some ⟨bY, 0, none⟩), .pointer (some ⟨gr, 0, none⟩)] w fun e w' => QR g gr X Y w e w' := by
  by_cases h1 : X < Y
  · exact quo_low g bx bY gr X Y w hg hr hx hy hne sX sY h1
  · by_cases h2 : 3 ≤ (H.words X).length
    · exact quo_long g bx bY gr X Y w hg hr hx hy hne sX sY h2 (by omega) (Lib.hid (HP h2))
    · exact quo_short g bx bY gr X Y w hg hr hx hy hne hgx hgy ((H.words_len X 2).1 (by omega)) hY (by omega)

set_option maxHeartbeats 1000000 in
theorem divmod_any (g bx bY gr X Y : Nat) (w : World) (hg : IsH w g) (hr : IsH w gr) (hx : IsI w bx (X : Int)) (hy : IsI w bY (Y : Int)) (hne : g ≠ gr) (hgx : g ≠ bx) (hgy : g ≠ bY) (sX : Sz9 X) (sY : Sz9 Y) (hY : 0 < Y) (HP : 3 ≤ (H.words X).length → PartsOk X Y) :
    Calls Try.prog 39 #[.pointer (some ⟨g, 0, none⟩), .pointer (some ⟨bx, 0, none⟩), .pointer (some ⟨bY, 0, none⟩), .pointer (some ⟨gr, 0, none⟩)] w fun e w' => QR g gr X Y w e w' := by
  have hal := below_hdr w
  have C1 := Lib.hid (iset_any w.heap.size bY (Y : Int) (w.alloc (.cells #[.bool false, .slice none 0 0] 53)) (IsI.new w).hd (hy.below hal) (by rw [Int.natAbs_natCast]; exact sY.out))
  have C2 : Hid (∀ w1, Below w.heap.size w w1 → Calls Try.prog 45 #[.pointer (some ⟨g, 0, none⟩), .pointer (some ⟨bx, 0, none⟩), .pointer (some ⟨bY, 0, none⟩), .pointer (some ⟨gr, 0, none⟩)] w1 fun e w' => QR g gr X Y w1 e w') := fun w1 h =>
    quo_any g bx bY gr X Y w1 (hg.below h) (hr.below h) (hx.below h) (hy.below h) hne hgx hgy sX sY hY HP
  clear hal hg hr hx hy sX sY HP
  go_enter Try.func39, Try.ntmps39
  go_wp2_with fail
  refine C1.out.mono ?_
  rintro e w1 ⟨rfl, i1, g1⟩
  have T1 := Lib.hid (below_new g1)
  have C3 := Lib.hid (C2.out w1 T1.out)
  clear i1 g1 C1 C2
  go_wp2_with fail
  refine C3.out.mono ?_
  rintro e w2 ⟨rfl, i2, i3, b2⟩
  have m0 := i3.neg_cell.1
  have I2 := Lib.hid i2
  have I3 := Lib.hid i3
  have B2 := Lib.hid b2
  clear i2 i3 b2 C3
  go_wp2
  go_ret2
  exact ⟨rfl, I2.out, I3.out, (Kq.of_below T1.out).trans B2.out⟩
end Go.Proofs.Ytcfiigodefkncaa
