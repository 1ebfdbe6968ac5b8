/- lotdrawerlaw.PoolAdds: the walk. -/
import Derived.Test.YtimeimagncechaaZd
import Derived.Test.YtimeimagncechaaZh
import Derived.Deep.RegionHeld3
namespace Go.Proofs.Ytimeimagncechaa
open Go.RowKit Go.Deep

theorem ip_none (w : World) : IP w none 0 [] := ⟨Il.nil, by simp, by omega, fun _ => rfl⟩
theorem sameB_self (r c : Int) (xs : List Int) : sameB r c xs r c xs = true := by unfold sameB; simp
/-- Whatever is below stays: a reservoir's cells. -/
theorem PB.cells {w : World} {g : Nat} {r c : Int} {v : Value} (h : PB w g r c v) : w.cell? ⟨g, 0, none⟩ = some (.int .i64 r) ∧ w.cell? ⟨g, 1, none⟩ = some (.int .i64 c) ∧ w.cell? ⟨g, 2, none⟩ = some v := ⟨h.at.1, h.at.2.1, h.at.2.2.1⟩

set_option maxRecDepth 100000 in
set_option maxHeartbeats 8000000 in
theorem poolAdds_walk (r c : Int) (A : Option Addr) (ca : Nat) (xs : List Int) (x d room : Int) (w : World) (hx : IP w A ca xs) :
    Calls Try.prog 3 #[pv r c (.slice A xs.length ca), .int .i64 x, .int .i64 d, .int .i64 room] w fun e w' => e = .returned (.bool true) ∧ Below w.heap.size w w' := by
  have HB : Hid (Below w.heap.size w (w.alloc (.cells #[.int .i64 r, .int .i64 c, .slice A xs.length ca] 24))) := (Below.refl _ _).alloc (Nat.le_refl _) _
  have HP := Lib.hid (PB.new w r c (.slice A xs.length ca))
  have HX := Lib.hid (hx.later HB.out)
  have C1 := Lib.hid (new_any room (w.alloc (.cells #[.int .i64 r, .int .i64 c, .slice A xs.length ca] 24)))
  generalize hw0 : w.alloc (.cells #[.int .i64 r, .int .i64 c, .slice A xs.length ca] 24) = w0 at HB HP HX C1
  have CN : Hid (∀ w', Calls Try.prog 10 #[pv r c (.slice A xs.length ca)] w' fun e w1 => e = .returned (ptup (needR r c xs)) ∧ Below w'.heap.size w' w1) := fun w' => need_any r c A ca xs w'
  have CA : Hid (∀ w', IP w' A ca xs → Calls Try.prog 11 #[pv r c (.slice A xs.length ca), .int .i64 x, .int .i64 d] w' (PPost w'.heap.size w' (addR r c xs x d))) := fun w' h => poolAdd_any r c A ca xs x d w' h
  have CF : Hid (∀ w', IP w' A ca xs → Calls Try.prog 12 #[pv r c (.slice A xs.length ca), .int .i64 x, .int .i64 d] w' (PPost w'.heap.size w' (addR r c xs x d))) := fun w' h => fAdd_any r c A ca xs x d w' h
  have CR : Hid (∀ w', Calls Try.prog 14 #[pv r c (.slice A xs.length ca)] w' fun e w1 => e = .returned (.bool (prB r c xs)) ∧ Below w'.heap.size w' w1) := fun w' => poolRight_any r c A ca xs w'
  have CG : Hid (∀ w', Calls Try.prog 15 #[pv r c (.slice A xs.length ca)] w' fun e w1 => e = .returned (.bool (prB r c xs)) ∧ Below w'.heap.size w' w1) := fun w' => fRight_any r c A ca xs w'
  have hneed : (prB r c xs = true ∧ needR r c xs = (c + 1, 0) ∧ 0 ≤ c ∧ c ≤ 1099511627776) ∨ (prB r c xs = false ∧ needR r c xs = (0, 1)) := by
    by_cases h : PR r c xs
    · exact .inl ⟨decide_eq_true h, if_pos h, h.2.1, h.2.2.1⟩
    · exact .inr ⟨decide_eq_false h, if_neg h⟩
  generalize prB r c xs = b at *
  generalize needR r c xs = nd at *
  generalize addR r c xs x d = q at *
  obtain ⟨⟨qr, qc, ys⟩, qe⟩ := q
  have hq : (qe != qe) = false := by simp
  have hb : (b != b) = false := by simp
  unfold ptup at CN
  unfold pv at *
  clear hx
  have hrm : (1 ≤ room ∧ room ≤ 400 ∧ (newR room).1.1 = room ∧ (newR room).2 = 0) ∨ (room < 1 ∧ (newR room).1.1 = 0 ∧ (newR room).2 = 2) ∨ (400 < room ∧ 1 ≤ room ∧ (newR room).1.1 = 0 ∧ (newR room).2 = 2) := by
    unfold newR
    rcases (show (1 ≤ room ∧ room ≤ 400) ∨ room < 1 ∨ (400 < room ∧ 1 ≤ room) by omega) with h | h | h
    · exact .inl ⟨h.1, h.2, by rw [if_pos h], by rw [if_pos h]⟩
    · exact .inr (.inl ⟨h, by rw [if_neg (by omega)]; rfl, by rw [if_neg (by omega)]⟩)
    · exact .inr (.inr ⟨h.1, h.2, by rw [if_neg (by omega)]; rfl, by rw [if_neg (by omega)]⟩)
  have HRM := Lib.hid hrm
  have HND := Lib.hid hneed
  clear hneed hrm
  generalize (newR room).1.1 = nr at *
  generalize (newR room).2 = ne at *
  go_enter Try.func3, Try.ntmps3
  subst hw0
  go_wp2_with fail
  refine C1.out.mono ?_
  rintro e w1 ⟨rfl, hb1⟩
  have b2 : Below w1.heap.size w1 (w1.alloc (.cells #[.int .i64 nr, .int .i64 0, .slice none 0 0] 24)) := (Below.refl _ _).alloc (Nat.le_refl _) _
  have HBw1 := Lib.hid (HB.out.trans ((hb1.trans (b2.mono hb1.size)).mono HB.out.size))
  have hP := (HP.out.later hb1).later b2
  have HXn1 := Lib.hid ((HX.out.later hb1).later b2)
  have HQn1 := Lib.hid (PB.new w1 nr 0 (.slice none 0 0))
  obtain ⟨c0, c1, c2, f0, f1, f2⟩ := hP.at
  have HPn1 := Lib.hid hP
  clear hb1 C1 b2 hP
  go_wp2_with fail
  refine (CN.out _).mono ?_
  rintro e w2 ⟨rfl, hb2⟩
  have HBw2 := Lib.hid (HBw1.out.trans (hb2.mono HBw1.out.size))
  have HXn2 := Lib.hid (HXn1.out.later hb2)
  have HQn2 := Lib.hid (HQn1.out.later hb2)
  have hP := HPn1.out.later hb2
  clear c0 c1 c2 f0 f1 f2 hb2
  obtain ⟨c0, c1, c2, f0, f1, f2⟩ := hP.at
  have HPn2 := Lib.hid hP
  clear hP
  go_wp2_with fail
  refine (CA.out _ HXn2.out).mono ?_
  rintro e w3 ⟨v, rfl, hO, hb3⟩
  obtain ⟨R, cr, rfl⟩ := hO.shape
  obtain ⟨_, _, e, hI⟩ := hO.ip
  cases e
  have b4 : Below w3.heap.size w3 (w3.alloc (.cells #[.int .i64 qr, .int .i64 qc, .slice R ys.length cr] 24)) := (Below.refl _ _).alloc (Nat.le_refl _) _
  have hb3 := hb3.trans (b4.mono hb3.size)
  have HBw3 := Lib.hid (HBw2.out.trans (hb3.mono HBw2.out.size))
  have HXn3 := Lib.hid (HXn2.out.later hb3)
  have HQn3 := Lib.hid (HQn2.out.later hb3)
  have hP := HPn2.out.later hb3
  have HYn1 := Lib.hid (hI.later b4)
  have HAn1 := Lib.hid (PB.new w3 qr qc (.slice R ys.length cr))
  clear c0 c1 c2 f0 f1 f2 hb3 b4 hI hO
  obtain ⟨c0, c1, c2, f0, f1, f2⟩ := hP.at
  have HPn3 := Lib.hid hP
  clear hP
  unfold pv
  go_wp2_with fail
  refine (CF.out _ HXn3.out).mono ?_
  rintro e w4 ⟨v, rfl, hO, hb3⟩
  obtain ⟨S, cs, rfl⟩ := hO.shape
  obtain ⟨_, _, e, hI⟩ := hO.ip
  cases e
  have b4 : Below w4.heap.size w4 (w4.alloc (.cells #[.int .i64 qr, .int .i64 qc, .slice S ys.length cs] 24)) := (Below.refl _ _).alloc (Nat.le_refl _) _
  have hb3 := hb3.trans (b4.mono hb3.size)
  have HBw4 := Lib.hid (HBw3.out.trans (hb3.mono HBw3.out.size))
  have HQn4 := Lib.hid (HQn3.out.later hb3)
  have HAn2 := Lib.hid (HAn1.out.later hb3)
  have HYn2 := Lib.hid (HYn1.out.later hb3)
  have HZn1 := Lib.hid (hI.later b4)
  have HC := Lib.hid (PB.new w4 qr qc (.slice S ys.length cs))
  have HPn4 := Lib.hid (HPn3.out.later hb3)
  clear c0 c1 c2 f0 f1 f2 hb3 b4 hI hO CA CF HXn3 CN
  unfold pv
  have hrm := HRM.out
  clear HRM
  obtain ⟨c0, c1, c2, f0, f1, f2⟩ := HQn4.out.at
  have CS := Lib.hid (samePool_any nr 0 nr 0 none none 0 0 [] [] (w4.alloc (.cells #[.int .i64 qr, .int .i64 qc, .slice S ys.length cs] 24)) (ip_none _) (ip_none _))
  rw [sameB_self] at CS
  unfold pv at CS
  have CT : Hid (∀ w', IP w' R cr ys → IP w' S cs ys → Calls Try.prog 13 #[.agg #[.int .i64 qr, .int .i64 qc, .slice R ys.length cr], .agg #[.int .i64 qr, .int .i64 qc, .slice S ys.length cs]] w' fun e w1 => e = .returned (.bool true) ∧ Below w'.heap.size w' w1) := fun w' h1 h2 => by
    have := samePool_any qr qc qr qc R S cr cs ys ys w' h1 h2
    rwa [sameB_self] at this
  rcases hrm with ⟨r1, r2, rfl, rfl⟩ | ⟨r1, rfl, rfl⟩ | ⟨r1, r2, rfl, rfl⟩
  all_goals
    go_wp2_with fail
    refine CS.out.mono ?_
    rintro e w5 ⟨rfl, hb5⟩
    have HBw5 := Lib.hid (HBw4.out.trans (hb5.mono HBw4.out.size))
    have hP := HPn4.out.later hb5
    have hA := HAn2.out.later hb5
    have hC := HC.out.later hb5
    have HYn3 := Lib.hid (HYn2.out.later hb5)
    have HZn2 := Lib.hid (HZn1.out.later hb5)
    clear c0 c1 c2 f0 f1 f2 hb5 CS HQn4
    have HQn5 : Hid (∀ w', Below w5.heap.size w5 w' → (w'.cell? ⟨w.heap.size, 0, none⟩ = some (.int .i64 r) ∧ w'.cell? ⟨w.heap.size, 1, none⟩ = some (.int .i64 c) ∧ w'.cell? ⟨w.heap.size, 2, none⟩ = some (.slice A xs.length ca)) ∧ (w'.cell? ⟨w3.heap.size, 0, none⟩ = some (.int .i64 qr) ∧ w'.cell? ⟨w3.heap.size, 1, none⟩ = some (.int .i64 qc) ∧ w'.cell? ⟨w3.heap.size, 2, none⟩ = some (.slice R ys.length cr)) ∧ (w'.cell? ⟨w4.heap.size, 0, none⟩ = some (.int .i64 qr) ∧ w'.cell? ⟨w4.heap.size, 1, none⟩ = some (.int .i64 qc) ∧ w'.cell? ⟨w4.heap.size, 2, none⟩ = some (.slice S ys.length cs))) := fun w' h => ⟨(hP.later h).cells, (hA.later h).cells, (hC.later h).cells⟩
    obtain ⟨⟨c0, c1, c2⟩, ⟨d0, d1, d2⟩, ⟨e0, e1, e2⟩⟩ := HQn5.out _ (Below.refl _ _)
    clear hP hA hC
    go_wp2_with fail
    go_region_held3 (fun w' => (w'.cell? ⟨w.heap.size, 0, none⟩ = some (.int .i64 r) ∧ w'.cell? ⟨w.heap.size, 1, none⟩ = some (.int .i64 c) ∧ w'.cell? ⟨w.heap.size, 2, none⟩ = some (.slice A xs.length ca)) ∧ (w'.cell? ⟨w3.heap.size, 0, none⟩ = some (.int .i64 qr) ∧ w'.cell? ⟨w3.heap.size, 1, none⟩ = some (.int .i64 qc) ∧ w'.cell? ⟨w3.heap.size, 2, none⟩ = some (.slice R ys.length cr)) ∧ (w'.cell? ⟨w4.heap.size, 0, none⟩ = some (.int .i64 qr) ∧ w'.cell? ⟨w4.heap.size, 1, none⟩ = some (.int .i64 qc) ∧ w'.cell? ⟨w4.heap.size, 2, none⟩ = some (.slice S ys.length cs))) (first | (exact HQn5.out _ HB8.out) | (exact HQn5.out _ HB7.out) | (exact HQn5.out _ HB6.out) | go_keep)
      (first
        | (go_at_call 14; refine (CR.out _).mono ?_; rintro e w6 ⟨rfl, hb6⟩; have HB6 := Lib.hid ((Below.refl w5.heap.size w5).drew.trans hb6); obtain ⟨⟨c0, c1, c2⟩, ⟨d0, d1, d2⟩, ⟨e0, e1, e2⟩⟩ := HQn5.out _ HB6.out; clear hb6)
        | (go_at_call 15; refine (CG.out _).mono ?_; rintro e w7 ⟨rfl, hb7⟩; have HB7 := Lib.hid (HB6.out.trans (hb7.mono HB6.out.size)); obtain ⟨⟨c0, c1, c2⟩, ⟨d0, d1, d2⟩, ⟨e0, e1, e2⟩⟩ := HQn5.out _ HB7.out; clear hb7)
        | (go_at_call 13; refine (CT.out _ (HYn3.out.later HB7.out) (HZn2.out.later HB7.out)).mono ?_; rintro e w8 ⟨rfl, hb8⟩; have HB8 := Lib.hid (HB7.out.trans (hb8.mono HB7.out.size)); obtain ⟨⟨c0, c1, c2⟩, ⟨d0, d1, d2⟩, ⟨e0, e1, e2⟩⟩ := HQn5.out _ HB8.out; clear hb8))
    clear CR CT HYn3 HZn2 HB6 HB7 hq hb
    go_wp2_with fail
    refine (CG.out _).mono ?_
    rintro e w9 ⟨rfl, hb9⟩
    have HB9 := Lib.hid (HB8.out.trans (hb9.mono HB8.out.size))
    have HBe := Lib.hid (HBw5.out.trans (HB9.out.mono HBw5.out.size))
    obtain ⟨⟨j0, j1, j2⟩, _, _⟩ := HQn5.out _ HB9.out
    clear hb9 HB8 CG HQn5 HB9 c0 c1 c2 d0 d1 d2 e0 e1 e2
    rcases HND.out with ⟨rfl, rfl, n1, n2⟩ | ⟨rfl, rfl⟩
    all_goals
      clear HND
      go_wp2
      go_ret
      exact ⟨retB (by simp), HBe.out⟩
end Go.Proofs.Ytimeimagncechaa
