/- lotdrawerkeep.PoolParts: the walk. -/
import Derived.Test.YtimeimagncechaaZk
import Derived.Test.YtimeimagncechaaZo
import Derived.Test.YtimeimagncechaaZm
namespace Go.Proofs.Ytimeimagncechaa
open Go.RowKit Go.Deep

theorem goR_snoc (r x d : Int) : ∀ (l ds : List Int) (c : Int) (xs : List Int), l.length = ds.length →
    (∀ e, e ≠ 0 → goR r c xs l ds = (pz, e) → goR r c xs (l ++ [x]) (ds ++ [d]) = (pz, e)) ∧ (∀ c' ys, goR r c xs l ds = ((r, c', ys), 0) → goR r c xs (l ++ [x]) (ds ++ [d]) = putR r c' ys x d)
  | [], [], c, xs, _ => by
    refine ⟨fun e he h => ?_, fun c' ys h => ?_⟩
    · rw [goR_nil] at h
      injection h with _ h2
      omega
    · rw [goR_nil] at h
      injection h with h1 _
      injection h1 with _ h1
      injection h1 with h1 h2
      subst h1 h2
      show goR r c xs [x] [d] = _
      rw [goR, goR_nil]
      rfl
  | y :: l, z :: ds, c, xs, h => by
    have ih := goR_snoc r x d l ds (c + 1) (nx r xs y z) (by simpa using h)
    rw [List.cons_append, List.cons_append, goR, goR]
    by_cases h1 : c = 1099511627776
    · rw [if_pos h1, if_pos h1]
      exact ⟨fun _ _ h => h, fun _ _ h => by injection h with _ h2; omega⟩
    · rw [if_neg h1, if_neg h1]
      by_cases h2 : z < 0 ∨ c < z
      · rw [if_pos h2, if_pos h2]
        exact ⟨fun _ _ h => h, fun _ _ h => by injection h with _ h2; omega⟩
      · rw [if_neg h2, if_neg h2]
        exact ih
  | [], _ :: _, _, _, h => by simp at h
  | _ :: _, [], _, _, h => by simp at h
theorem allR_snoc (r : Int) (l ds : List Int) (x d : Int) : (∃ e, e ≠ 0 ∧ allR r l ds = (pz, e) ∧ allR r (l ++ [x]) (ds ++ [d]) = (pz, e)) ∨ ∃ ys, allR r l ds = ((r, (l.length : Int), ys), 0) ∧ PR r l.length ys ∧ allR r (l ++ [x]) (ds ++ [d]) = putR r l.length ys x d := by
  rcases allR_cases r l ds with ⟨e, he, h⟩ | ⟨ys, h, hg, hp, hl, h1, h2⟩
  · refine .inl ⟨e, he, h, ?_⟩
    unfold allR at h ⊢
    by_cases h1 : r < 1 ∨ 400 < r
    · rw [if_pos h1] at h ⊢; exact h
    · rw [if_neg h1] at h ⊢
      by_cases h2 : l.length ≠ ds.length
      · rw [if_pos h2] at h; rw [if_pos (by simpa using h2)]; exact h
      · rw [if_neg h2] at h; rw [if_neg (by simpa using h2)]
        exact (goR_snoc r x d l ds 0 [] (by omega)).1 e he h
  · refine .inr ⟨ys, h, hp, ?_⟩
    unfold allR at h ⊢
    rw [if_neg (by omega), if_neg (by omega)] at h
    rw [if_neg (by omega), if_neg (by simp; omega)]
    exact (goR_snoc r x d l ds 0 [] hl).2 _ _ h

set_option maxRecDepth 100000 in
set_option maxHeartbeats 8000000 in
theorem poolParts_walk (room : Int) (L : Option Addr) (cl : Nat) (l : List Int) (D : Option Addr) (cd : Nat) (ds : List Int) (x d : Int) (w : World) (hl : IP w L cl l) (hd : IP w D cd ds) (hs : cl ≤ 1048576) (hs2 : cd ≤ 1048576) :
    Calls Try.prog 8 #[.int .i64 room, .slice L l.length cl, .slice D ds.length cd, .int .i64 x, .int .i64 d] w fun e w' => e = .returned (.bool true) ∧ Below w.heap.size w w' := by
  have CA := Lib.hid (alive6_any w)
  have hle : Hid (l.length ≤ 1048576) := Nat.le_trans hl.le hs
  have hle2 : Hid (ds.length ≤ 1048576) := Nat.le_trans hd.le hs2
  have HL := Lib.hid hl
  have HD := Lib.hid hd
  have C1 : Hid (∀ w', IP w' L cl l → IP w' D cd ds → Calls Try.prog 16 #[.int .i64 room, .slice L l.length cl, .slice D ds.length cd] w' (PPost w'.heap.size w' (allR room l ds))) := fun w' h1 h2 => poolAll_any room L cl l D cd ds w' h1 h2
  have HS := Lib.hid (allR_snoc room l ds x d)
  have C2 : Hid (∀ A1 c1 A2 c2 w', IP w' A1 c1 (l ++ [x]) → IP w' A2 c2 (ds ++ [d]) → Calls Try.prog 16 #[.int .i64 room, .slice A1 (l.length + 1) c1, .slice A2 (ds.length + 1) c2] w' (PPost w'.heap.size w' (allR room (l ++ [x]) (ds ++ [d])))) := fun A1 c1 A2 c2 w' h1 h2 => by
    have := poolAll_any room A1 c1 (l ++ [x]) A2 c2 (ds ++ [d]) w' h1 h2
    simpa using this
  generalize allR room l ds = q1 at *
  generalize allR room (l ++ [x]) (ds ++ [d]) = q2 at *
  obtain ⟨⟨qr, qc, ys⟩, qe⟩ := q1
  obtain ⟨⟨sr, sc, zs⟩, se⟩ := q2
  clear hl hd hs hs2
  go_enter Try.func8, Try.ntmps8
  go_wp2_with fail
  refine CA.out.mono ?_
  rintro e w1 ⟨rfl, hb1⟩
  have HB1 := Lib.hid hb1
  have HL1 := Lib.hid (HL.out.later hb1)
  have HD1 := Lib.hid (HD.out.later hb1)
  clear CA hb1 HL HD
  go_wp2_with fail
  refine (C1.out _ HL1.out HD1.out).mono ?_
  rintro e w2 ⟨v, rfl, hO, hb⟩
  obtain ⟨R, cr, rfl⟩ := hO.shape
  obtain ⟨_, _, e, hI⟩ := hO.ip
  cases e
  have b4 : Below w2.heap.size w2 (w2.alloc (.cells #[.int .i64 qr, .int .i64 qc, .slice R ys.length cr] 24)) := (Below.refl _ _).alloc (Nat.le_refl _) _
  have hb2 := hb.trans (b4.mono hb.size)
  have HB2 := Lib.hid (HB1.out.trans (hb2.mono HB1.out.size))
  have HL2 := Lib.hid (HL1.out.later hb2)
  have HD2 := Lib.hid (HD1.out.later hb2)
  have HI2 := Lib.hid (hI.later b4)
  have HP2 := Lib.hid (PB.new w2 qr qc (.slice R ys.length cr))
  clear hO hb C1 hI hb2 b4 HB1 HL1 HD1
  unfold pv
  have CC := Lib.hid (clone_any L cl l _ HL2.out (by have := hle.out; omega))
  go_wp2_with fail
  refine CC.out.mono ?_
  rintro e w3 ⟨v, rfl, hO, hb3⟩
  obtain ⟨V, cv, rfl⟩ := hO.shape
  have HB3 := Lib.hid (HB2.out.trans (hb3.mono HB2.out.size))
  have HD3 := Lib.hid (HD2.out.later hb3)
  have HI3 := Lib.hid (HI2.out.later hb3)
  have HP3 := Lib.hid (HP2.out.later hb3)
  have hsz3 := hb3.size
  have hlt3 := Bs.lt HP2.out
  have HO3 := Lib.hid hO
  have HBb := Lib.hid hb3
  clear hO hb3 CC
  generalize w2.alloc (.cells #[.int .i64 qr, .int .i64 qc, .slice R ys.length cr] 24) = wb at *
  go_wp2_with (at_builtin; refine wpList_push rfl _ _ rfl wb.heap.size (.slice V l.length cv) l x rfl HO3.out rfl (by have := hle.out; omega) hsz3 HBb.out ?_)
  intro g cap w4 ho4 hB4 _
  have HO4 := Lib.hid ho4
  have HB4 := Lib.hid hB4
  have HBa := Lib.hid (HB2.out.trans (hB4.mono HB2.out.size))
  have CD := Lib.hid (clone_any D cd ds w4 (HD2.out.later hB4) (by have := hle2.out; omega))
  have HI4 := Lib.hid (HI2.out.later hB4)
  have HP4 := Lib.hid (HP2.out.later hB4)
  clear ho4 hB4 HO3 HBb HD3 HD2 HI3 HP3 HB3 HI2 HP2 HB2 HB4
  go_wp2_with fail
  refine CD.out.mono ?_
  rintro e w5 ⟨v, rfl, hO, hb5⟩
  obtain ⟨V2, cv2, rfl⟩ := hO.shape
  have hsz5 := hb5.size
  have HO5 := Lib.hid hO
  have HB5 := Lib.hid hb5
  clear hO hb5 CD
  go_wp2_with (at_builtin; refine wpList_push rfl _ _ rfl w4.heap.size (.slice V2 ds.length cv2) ds d rfl HO5.out rfl (by have := hle2.out; omega) hsz5 HB5.out ?_)
  intro g2 cap2 w6 ho6 hB6 _
  obtain ⟨_, _, e1, hI1⟩ := (HO4.out.later hB6).ip
  simp only [Value.slice.injEq] at e1
  obtain ⟨rfl, he1, rfl⟩ := e1
  clear he1
  obtain ⟨_, _, e1, hI2⟩ := ho6.ip
  simp only [Value.slice.injEq] at e1
  obtain ⟨rfl, he1, rfl⟩ := e1
  clear he1
  have CE := Lib.hid (C2.out _ _ _ _ w6 hI1 hI2)
  have HB6 := Lib.hid (HBa.out.trans (hB6.mono HBa.out.size))
  have HI6 := Lib.hid (HI4.out.later hB6)
  have HP6 := Lib.hid (HP4.out.later hB6)
  clear ho6 hB6 hI1 hI2 HO5 HB5 HBa HO4 HI4 HP4 C2
  go_wp2_with fail
  refine CE.out.mono ?_
  rintro e w7 ⟨v, rfl, hO, hb⟩
  obtain ⟨S, cs, rfl⟩ := hO.shape
  obtain ⟨_, _, e, hI⟩ := hO.ip
  cases e
  have b4 : Below w7.heap.size w7 (w7.alloc (.cells #[.int .i64 sr, .int .i64 sc, .slice S zs.length cs] 24)) := (Below.refl _ _).alloc (Nat.le_refl _) _
  have hb2 := hb.trans (b4.mono hb.size)
  have HB7 := Lib.hid (HB6.out.trans (hb2.mono HB6.out.size))
  have HI7 := Lib.hid (HI6.out.later hb2)
  have HP7 := Lib.hid (HP6.out.later hb2)
  have HJ7 := Lib.hid (hI.later b4)
  have HQ7 := Lib.hid (PB.new w7 sr sc (.slice S zs.length cs))
  clear hO hb CE hI hb2 b4 HB6 HI6 HP6
  unfold pv
  obtain ⟨c0, c1, c2, _, _, _⟩ := HP7.out.at
  rcases HS.out with ⟨er, he, h1, h2⟩ | ⟨us, h1, hP, h2⟩
  · simp only [pz, Prod.mk.injEq] at h1 h2
    obtain ⟨⟨rfl, rfl, rfl⟩, hq⟩ := h1
    obtain ⟨⟨rfl, rfl, rfl⟩, hs⟩ := h2
    have t1 : (qe != 0) = true := by rw [bne_iff_ne, hq]; exact he
    have t2 : (se == qe) = true := by rw [hq, hs]; simp
    clear HS he hq hs
    go_wp2
    go_ret
    exact ⟨rfl, HB7.out⟩
  · simp only [Prod.mk.injEq] at h1
    obtain ⟨⟨rfl, rfl, rfl⟩, rfl⟩ := h1
    have CN := Lib.hid (need_any qr l.length R cr ys (w7.alloc (.cells #[.int .i64 sr, .int .i64 sc, .slice S zs.length cs] 24)))
    rw [show needR qr l.length ys = ((l.length : Int) + 1, 0) from if_pos hP] at CN
    have C3 : Hid (∀ w', IP w' R cr ys → Calls Try.prog 11 #[pv qr l.length (.slice R ys.length cr), .int .i64 x, .int .i64 d] w' (PPost w'.heap.size w' ((sr, sc, zs), se))) := fun w' h => by
      have := poolAdd_any qr l.length R cr ys x d w' h
      rwa [show addR qr l.length ys x d = ((sr, sc, zs), se) from (if_pos hP).trans h2.symm] at this
    have C4 : Hid (∀ A1 c1 w', IP w' A1 c1 zs → IP w' S cs zs → Calls Try.prog 13 #[pv sr sc (.slice A1 zs.length c1), pv sr sc (.slice S zs.length cs)] w' fun e w1 => e = .returned (.bool true) ∧ Below w'.heap.size w' w1) := fun A1 c1 w' h1 h2 => by
      have := samePool_any sr sc sr sc A1 S c1 cs zs zs w' h1 h2
      rwa [sameB_self] at this
    have hcs : (se = 2 ∧ d < 0) ∨ (se = 2 ∧ 0 ≤ d ∧ decide (d < (l.length : Int) + 1) = false) ∨ (se = 0 ∧ 0 ≤ d ∧ decide (d < (l.length : Int) + 1) = true) := by
      rw [decide_eq_false_iff_not, decide_eq_true_iff]
      have hle' := hle.out
      by_cases hb : d < 0 ∨ (l.length : Int) < d
      · rw [putR_bad (by omega) hb] at h2
        injection h2 with _ h3
        omega
      · rw [putR_ok (by omega) (by omega) (by omega)] at h2
        injection h2 with _ h3
        omega
    have t2 : (se == se) = true := by simp
    unfold pv ptup at *
    clear HS hP h2
    rcases hcs with ⟨rfl, d1⟩ | ⟨rfl, d0, d1⟩ | ⟨rfl, d0, d1⟩
    all_goals
      go_wp2_with fail
      refine CN.out.mono ?_
      rintro e w8 ⟨rfl, hb8⟩
      have HB8 := Lib.hid (HB7.out.trans (hb8.mono HB7.out.size))
      have HI8 := Lib.hid (HI7.out.later hb8)
      have HJ8 := Lib.hid (HJ7.out.later hb8)
      have HQ8 := Lib.hid (HQ7.out.later hb8)
      obtain ⟨j0, j1, j2, _, _, _⟩ := (HP7.out.later hb8).at
      clear hb8 CN c0 c1 c2
      go_wp2_with fail
      refine (C3.out _ HI8.out).mono ?_
      rintro e w9 ⟨v, rfl, hO, hb⟩
      obtain ⟨U, cu, rfl⟩ := hO.shape
      obtain ⟨_, _, e, hI⟩ := hO.ip
      cases e
      have b4 : Below w9.heap.size w9 (w9.alloc (.cells #[.int .i64 sr, .int .i64 sc, .slice U zs.length cu] 24)) := (Below.refl _ _).alloc (Nat.le_refl _) _
      have hb2 := hb.trans (b4.mono hb.size)
      have HB9 := Lib.hid (HB8.out.trans (hb2.mono HB8.out.size))
      have CS := Lib.hid (C4.out U cu _ (hI.later b4) (HJ8.out.later hb2))
      obtain ⟨k0, k1, k2, _, _, _⟩ := (HQ8.out.later hb2).at
      clear hO hb hI hb2 b4 C3 C4 j0 j1 j2
      unfold pv
      go_wp2_with fail
      refine CS.out.mono ?_
      rintro e w10 ⟨rfl, hb⟩
      have HBe := Lib.hid (HB9.out.trans (hb.mono HB9.out.size))
      clear hb CS
      go_wp2
      go_ret
      exact ⟨rfl, HBe.out⟩
end Go.Proofs.Ytimeimagncechaa
