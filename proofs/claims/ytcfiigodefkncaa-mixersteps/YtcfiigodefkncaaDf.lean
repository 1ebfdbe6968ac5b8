import Derived.Test.YtcfiigodefkncaaDe
import Derived.Deep.DeepFit
/- lotdrawerref.Int.QuoRem, of numbers that are not below 0: the long way, where parts keeps its word. -/
namespace Go.Proofs.Ytcfiigodefkncaa
open Go.RowKit Go.Deep

/-- parts keeps its word at these two numbers. -/
def PartsOk (X Y : Nat) : Prop := ∀ (A B : Option Addr) (ca cb : Nat) (w : World), H.Wd w A (H.words X) → H.Wd w B (H.words Y) →
  Calls Try.prog 46 #[.slice A (H.words X).length ca, .slice B (H.words Y).length cb] w fun e w' => Parts X Y w e w'

theorem words_le9 {X : Nat} (h : Sz9 X) : (H.words X).length ≤ 900000 := by
  have := digits_le (z := (X : Int)) (k := 900000) (by rw [Int.natAbs_natCast]; exact h.out)
  rwa [Int.natAbs_natCast] at this

set_option maxRecDepth 100000 in
set_option maxHeartbeats 2000000 in
theorem quo_long (g bx bY gr X Y : Nat) (w : World) (hg : IsH w g) (hr : IsH w gr) (hx : IsI w bx (X : Int)) (hy : IsI w bY (Y : Int)) (hne : g ≠ gr) (sX : Sz9 X) (sY : Sz9 Y) (hX : 3 ≤ (H.words X).length) (hle : Y ≤ X) (HP : Hid (PartsOk X Y)) :
    Calls Try.prog 45 #[.pointer (some ⟨g, 0, none⟩), .pointer (some ⟨bx, 0, none⟩), .pointer (some ⟨bY, 0, none⟩), .pointer (some ⟨gr, 0, none⟩)] w fun e w' => QR g gr X Y w e w' := by
  have C1 := icmpAbs_any bx bY _ _ w hx hy (by rw [Int.natAbs_natCast]; exact sX.out) (by rw [Int.natAbs_natCast]; exact sY.out)
  rw [Int.natAbs_natCast, Int.natAbs_natCast] at C1
  have ho : 0 ≤ ord X Y := by unfold ord; rw [if_neg (by omega)]; split <;> decide
  obtain ⟨o, hoo⟩ : ∃ o, o = ord X Y := ⟨_, rfl⟩
  rw [← hoo] at C1 ho
  have HC1 := Lib.hid C1
  have HG := Lib.hid hg
  have HR := Lib.hid hr
  have HX := Lib.hid hx
  have HY := Lib.hid hy
  have hl9 : (H.words X).length ≤ 900000 := words_le9 sX
  obtain ⟨xs, hxs⟩ : ∃ xs, xs = H.words X := ⟨_, rfl⟩
  obtain ⟨ys, hys⟩ : ∃ ys, ys = H.words Y := ⟨_, rfl⟩
  rw [← hxs] at hX hl9
  have PC : Hid (∀ (A B : Option Addr) (ca cb : Nat) (w : World), H.Wd w A xs → H.Wd w B ys → Calls Try.prog 46 #[.slice A xs.length ca, .slice B ys.length cb] w fun e w' => Parts X Y w e w') := by rw [hxs, hys]; exact HP.out
  have HXS := Lib.hid hxs
  have HYS := Lib.hid hys
  clear hg hr hx hy hle C1 hoo hxs hys sX sY HP
  go_enter Try.func45, Try.ntmps45
  go_wp2_with fail
  refine HC1.out.mono ?_
  rintro e w1 ⟨rfl, h1⟩
  have T1 := Lib.hid h1
  have X1 := Lib.hid (HX.out.below h1)
  have Y1 := Lib.hid (HY.out.below h1)
  obtain ⟨A, ca, x0, x1, xa, xb⟩ := X1.out.open_
  obtain ⟨B', cb', y0, ya, yb, yc⟩ := Y1.out.open_
  clear xa xb ya yb yc x1
  rw [show decide ((X : Int) < 0) = false from by simp] at x0
  rw [show decide ((Y : Int) < 0) = false from by simp] at y0
  obtain ⟨A, ca, xx, x1, xa, xb⟩ := X1.out.open_
  rw [Int.natAbs_natCast, ← HXS.out] at x1
  clear h1 HC1 xx xa xb
  go_wp2_with fail
  go_quiet (fail)
  have BD : Hid (Below w1.heap.size w1 (w1.drewN nq)) := below_drewN (Below.refl _ _) _
  generalize w1.drewN nq = w2 at BD ⊢
  have X2 := Lib.hid (X1.out.below BD.out)
  have Y2 := Lib.hid (Y1.out.below BD.out)
  obtain ⟨A2, ca2, x20, x21, xa, xb⟩ := X2.out.open_
  obtain ⟨B2, cb2, y20, y21, ya, yb⟩ := Y2.out.open_
  rw [Int.natAbs_natCast, ← HXS.out] at x21 xa
  rw [Int.natAbs_natCast, ← HYS.out] at y21 ya
  obtain ⟨gn, GA, gk, gc, hgd⟩ := (HG.out.below T1.out).below BD.out
  obtain ⟨rn, RA, rk, rc, hrd⟩ := (HR.out.below T1.out).below BD.out
  have XA := Lib.hid xa
  have YA := Lib.hid ya
  have GD := Lib.hid hgd
  have RD := Lib.hid hrd
  clear x0 x1 y0 x20 y20 xa xb ya yb hgd hrd X1 Y1 X2 Y2
  go_wp2_with fail
  go_region_with ((go_at_call 46; go_fit (PC.out A2 B2 ca2 cb2 _ (XA.out.below (Below.refl _ w2).drew) (YA.out.below (Below.refl _ w2).drew)); rintro e w3 ⟨Q, R, qs, rs, c, d, rfl, p1, p2, p3, p4, p5, p6, p7, p8, hB3⟩; have P1 := Lib.hid p1; have P2 := Lib.hid p2; have P7 := Lib.hid p7; have P8 := Lib.hid p8; have B3 : Hid (Below w2.heap.size w2 w3) := (Below.refl _ w2).drew.trans hB3; clear p1 p2 p7 p8 hB3))
  all_goals
    have z0 := (GD.out.below B3.out).cell0
    have z1 := (GD.out.below B3.out).cell1
    have f0 := (GD.out.below B3.out).frozen 0
    have f1 := (GD.out.below B3.out).frozen 1
    have r0 := (RD.out.below B3.out).cell0
    have r1 := (RD.out.below B3.out).cell1
    have e0 := (RD.out.below B3.out).frozen 0
    have e1 := (RD.out.below B3.out).frozen 1
    obtain ⟨s1, s2, s3⟩ := stored (n := false) (c := c) GD.out B3.out P1.out
    have w2' := Wd_only P2.out (GD.out.below B3.out) (grown_set (p := ⟨g, 1, none⟩) (grown_set (p := ⟨g, 0, none⟩) (grown_refl w3 (some g)) rfl (.bool false)) rfl (.slice Q qs.length c))
    have rd2 := RD.out.other (Ne.symm hne) s3
    obtain ⟨t1, t2, t3⟩ := stored (n := false) (c := d) rd2 (Below.refl _ _) w2'
    have C6 := itrim_is Q c g false qs _ (s1.other hne t3) (Wd_only s2 rd2 t3) (by omega) p3
    have T1' := Lib.hid t1
    have T2' := Lib.hid t2
    have T3' := Lib.hid t3
    have S1 := Lib.hid s1
    have S3 := Lib.hid s3
    have HC6 := Lib.hid C6
    clear s1 s2 s3 w2' rd2 t1 t2 t3 C6
    go_wp2_with fail
    refine HC6.out.mono ?_
    rintro e w6 ⟨rfl, i6, g6⟩
    have I6 := Lib.hid i6
    have G6 := Lib.hid g6
    have C7 := Lib.hid (itrim_is R d gr false rs w6 (T1'.out.other (Ne.symm hne) g6) (Wd_only T2'.out (S1.out.other hne T3'.out) g6) (by omega) p4)
    have hrd6 := Lib.hid (T1'.out.other (Ne.symm hne) g6)
    clear i6 g6 HC6
    go_wp2_with fail
    refine C7.out.mono ?_
    rintro e w7 ⟨rfl, i7, g7⟩
    have I7 := Lib.hid i7
    have G7 := Lib.hid g7
    clear i7 g7 C7
    go_wp2
    go_ret2
    refine ⟨rfl, ?_, ?_, ?_⟩
    · have := I6.out.only ⟨_, _, _, _, hrd6.out⟩ hne G7.out
      rw [P7.out] at this
      exact this
    · have := I7.out
      rw [P8.out] at this
      exact this
    · exact ((((((Kq.of_below T1.out).below BD.out).grown S3.out (.inl rfl)).grown T3'.out (.inr rfl)).grown G6.out (.inl rfl)).grown G7.out (.inr rfl))
end Go.Proofs.Ytcfiigodefkncaa
