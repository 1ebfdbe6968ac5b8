/- WalkCounts' walk. -/
import Derived.Test.YtojoecoocbjgaaaWkg
import Derived.Test.YtojoecoocbjgaaaWke
import Derived.Laws.EntriesVeiled
namespace Go.Proofs.Ytojoecoocbjgaaa
open Go.RowKit Go.Deep Go.Maps

/-- Each of the five by itself: what the program answers, whether the reference says that it is wrong, and what told answers then. -/
theorem part3 (n z : Int) : ∃ (x e : Int) (b : Bool), (∀ w : World, Calls Try.prog 9 #[.int .i64 n, .int .i64 z] w fun r w' => r = .returned (.tuple #[.int .i64 x, .int .i64 e]) ∧ Below w.heap.size w w') ∧
    (∀ (A : Option Addr) (ca : Nat) (w : World), IP w A ca [z] → Calls Try.prog 16 #[.int .i64 n, .slice A 1 ca] w fun r w' => r = .returned (.bool b) ∧ Below w.heap.size w w') ∧
    (∀ (gn ga gt : Nat) (w : World), w.cell? ⟨gn, 0, none⟩ = some (.int .i64 n) → w.cell? ⟨ga, 0, none⟩ = some (.func (.func 15) #[] #[]) → w.cell? ⟨gt, 0, none⟩ = some (.int .i64 z) → gn < w.heap.size → ga < w.heap.size → gt < w.heap.size →
      Calls Try.prog 14 #[.int .i64 x, .int .i64 e, .bool b, .func (.func 17) #[] #[.pointer (some ⟨gn, 0, none⟩), .pointer (some ⟨ga, 0, none⟩), .pointer (some ⟨gt, 0, none⟩)]] w fun r w' => r = .returned (.bool true) ∧ Below w.heap.size w w') :=
  ⟨_, _, _, fun w => by have := ctFree n z w; rwa [ans_parts] at this, fun A ca w h => by have := qwrong_any n A ca [z] w h; rwa [inR_1] at this, fun gn ga gt w h1 h2 h3 l1 l2 l3 => told3 n z gn ga gt w h1 h2 h3 l1 l2 l3⟩
theorem part4 (n a z : Int) : ∃ (x e : Int) (b : Bool), (∀ w : World, Calls Try.prog 10 #[.int .i64 n, .int .i64 a, .int .i64 z] w fun r w' => r = .returned (.tuple #[.int .i64 x, .int .i64 e]) ∧ Below w.heap.size w w') ∧
    (∀ (A : Option Addr) (ca : Nat) (w : World), IP w A ca [a, z] → Calls Try.prog 16 #[.int .i64 n, .slice A 2 ca] w fun r w' => r = .returned (.bool b) ∧ Below w.heap.size w w') ∧
    (∀ (gn ga gt : Nat) (w : World), w.cell? ⟨gn, 0, none⟩ = some (.int .i64 n) → w.cell? ⟨ga, 0, none⟩ = some (.int .i64 a) → w.cell? ⟨gt, 0, none⟩ = some (.int .i64 z) → gn < w.heap.size → ga < w.heap.size → gt < w.heap.size →
      Calls Try.prog 14 #[.int .i64 x, .int .i64 e, .bool b, .func (.func 19) #[] #[.pointer (some ⟨gn, 0, none⟩), .pointer (some ⟨ga, 0, none⟩), .pointer (some ⟨gt, 0, none⟩)]] w fun r w' => r = .returned (.bool true) ∧ Below w.heap.size w w') :=
  ⟨_, _, _, fun w => by have := ctAbove n a z w; rwa [ans_parts] at this, fun A ca w h => by have := qwrong_any n A ca [a, z] w h; rwa [inR_2] at this, fun gn ga gt w h1 h2 h3 l1 l2 l3 => told4 n a z gn ga gt w h1 h2 h3 l1 l2 l3⟩
theorem part5 (n a z t : Int) : ∃ (x e : Int) (b : Bool), (∀ w : World, Calls Try.prog 11 #[.int .i64 n, .int .i64 a, .int .i64 z, .int .i64 t] w fun r w' => r = .returned (.tuple #[.int .i64 x, .int .i64 e]) ∧ Below w.heap.size w w') ∧
    (∀ (A : Option Addr) (ca : Nat) (w : World), IP w A ca [a, z, t] → Calls Try.prog 16 #[.int .i64 n, .slice A 3 ca] w fun r w' => r = .returned (.bool b) ∧ Below w.heap.size w w') ∧
    (∀ (gn ga gT gt : Nat) (w : World), w.cell? ⟨gn, 0, none⟩ = some (.int .i64 n) → w.cell? ⟨ga, 0, none⟩ = some (.int .i64 a) → w.cell? ⟨gt, 0, none⟩ = some (.int .i64 z) → w.cell? ⟨gT, 0, none⟩ = some (.int .i64 t) → gn < w.heap.size → ga < w.heap.size → gt < w.heap.size → gT < w.heap.size →
      Calls Try.prog 14 #[.int .i64 x, .int .i64 e, .bool b, .func (.func 21) #[] #[.pointer (some ⟨gn, 0, none⟩), .pointer (some ⟨ga, 0, none⟩), .pointer (some ⟨gT, 0, none⟩), .pointer (some ⟨gt, 0, none⟩)]] w fun r w' => r = .returned (.bool true) ∧ Below w.heap.size w w') :=
  ⟨_, _, _, fun w => by have := ctBet n a z t w; rwa [ans_parts] at this, fun A ca w h => by have := qwrong_any n A ca [a, z, t] w h; rwa [inR_3] at this, fun gn ga gT gt w h1 h2 h3 h4 l1 l2 l3 l4 => told5 n a z t gn ga gT gt w h1 h2 h3 h4 l1 l2 l3 l4⟩
theorem part6 (n : Int) : ∃ (x e : Int) (b : Bool), (∀ w : World, Calls Try.prog 12 #[.int .i64 n] w fun r w' => r = .returned (.tuple #[.int .i64 x, .int .i64 e]) ∧ Below w.heap.size w w') ∧
    (∀ (w : World), Calls Try.prog 16 #[.int .i64 n, .slice none 0 0] w fun r w' => r = .returned (.bool b) ∧ Below w.heap.size w w') ∧
    (∀ (gn : Nat) (w : World), w.cell? ⟨gn, 0, none⟩ = some (.int .i64 n) → gn < w.heap.size →
      Calls Try.prog 14 #[.int .i64 x, .int .i64 e, .bool b, .func (.func 23) #[] #[.pointer (some ⟨gn, 0, none⟩)]] w fun r w' => r = .returned (.bool true) ∧ Below w.heap.size w w') :=
  ⟨_, _, _, fun w => by have := ctFirst n w; rwa [ans_parts] at this, fun w => by have := qwrong_any n none 0 [] w ⟨Il.nil, Nat.le_refl _, by omega, fun _ => rfl⟩; rwa [inR_0] at this, fun gn w h1 l1 => told6 n gn w h1 l1⟩
theorem part7 (n : Int) : ∃ (x e : Int) (b : Bool), (∀ w : World, Calls Try.prog 13 #[.int .i64 n] w fun r w' => r = .returned (.tuple #[.int .i64 x, .int .i64 e]) ∧ Below w.heap.size w w') ∧
    ((n < 0 ∧ b = true) ∨ (¬ n < 0 ∧ 28 < n ∧ b = true) ∨ (¬ n < 0 ∧ ¬ 28 < n ∧ b = false)) ∧
    (∀ (gn : Nat) (w : World), w.cell? ⟨gn, 0, none⟩ = some (.int .i64 n) →
      Calls Try.prog 14 #[.int .i64 x, .int .i64 e, .bool b, .func (.func 25) #[] #[.pointer (some ⟨gn, 0, none⟩)]] w fun r w' => r = .returned (.bool true) ∧ Below w.heap.size w w') :=
  ⟨_, _, _, fun w => by have := ctCat n w; rwa [ans_parts] at this, by
    by_cases h1 : n < 0
    · exact .inl ⟨h1, by rw [decide_eq_false (by omega)]; rfl⟩
    · by_cases h2 : 28 < n
      · exact .inr (.inl ⟨h1, h2, by rw [decide_eq_false (by omega)]; rfl⟩)
      · exact .inr (.inr ⟨h1, h2, by rw [decide_eq_true (by omega)]; rfl⟩), fun gn w h1 => told7 n gn w h1⟩

/-- Four boxes, one behind the other. -/
theorem boxes4 (w : World) (v0 v1 v2 v3 : Value) (T : TypeId) (wx : World) (hx : Below ((((w.alloc (.cells #[v0] T)).alloc (.cells #[v1] T)).alloc (.cells #[v2] T)).alloc (.cells #[v3] T)).heap.size ((((w.alloc (.cells #[v0] T)).alloc (.cells #[v1] T)).alloc (.cells #[v2] T)).alloc (.cells #[v3] T)) wx) :
    (wx.cell? ⟨w.heap.size, 0, none⟩ = some v0 ∧ wx.cell? ⟨w.heap.size + 1, 0, none⟩ = some v1 ∧ wx.cell? ⟨w.heap.size + 1 + 1, 0, none⟩ = some v2 ∧ wx.cell? ⟨w.heap.size + 1 + 1 + 1, 0, none⟩ = some v3) ∧ w.heap.size + 3 < wx.heap.size ∧ Below w.heap.size w wx := by
  obtain ⟨wa, ha⟩ : ∃ x, x = w.alloc (.cells #[v0] T) := ⟨_, rfl⟩
  rw [← ha] at hx
  have sa : wa.heap.size = w.heap.size + 1 := by rw [ha]; simp
  have ca : wa.cell? ⟨w.heap.size, 0, none⟩ = some v0 := by rw [ha, World.cell?_alloc_new]; rfl
  have ba : Below w.heap.size w wa := by rw [ha]; exact (Below.refl _ _).alloc (Nat.le_refl _) _
  clear ha
  obtain ⟨wb, hb⟩ : ∃ x, x = wa.alloc (.cells #[v1] T) := ⟨_, rfl⟩
  rw [← hb] at hx
  have sb : wb.heap.size = w.heap.size + 1 + 1 := by rw [hb]; simp [sa]
  have cb : wb.cell? ⟨w.heap.size + 1, 0, none⟩ = some v1 := by rw [hb, ← sa, World.cell?_alloc_new]; rfl
  have bb : Below wa.heap.size wa wb := by rw [hb]; exact (Below.refl _ _).alloc (Nat.le_refl _) _
  clear hb
  obtain ⟨wc, hc⟩ : ∃ x, x = wb.alloc (.cells #[v2] T) := ⟨_, rfl⟩
  rw [← hc] at hx
  have sc : wc.heap.size = w.heap.size + 1 + 1 + 1 := by rw [hc]; simp [sb]
  have cc : wc.cell? ⟨w.heap.size + 1 + 1, 0, none⟩ = some v2 := by rw [hc, ← sb, World.cell?_alloc_new]; rfl
  have bc : Below wb.heap.size wb wc := by rw [hc]; exact (Below.refl _ _).alloc (Nat.le_refl _) _
  clear hc
  obtain ⟨wd, hd⟩ : ∃ x, x = wc.alloc (.cells #[v3] T) := ⟨_, rfl⟩
  rw [← hd] at hx
  have sd : wd.heap.size = w.heap.size + 1 + 1 + 1 + 1 := by rw [hd]; simp [sc]
  have cd : wd.cell? ⟨w.heap.size + 1 + 1 + 1, 0, none⟩ = some v3 := by rw [hd, ← sc, World.cell?_alloc_new]; rfl
  have bd : Below wc.heap.size wc wd := by rw [hd]; exact (Below.refl _ _).alloc (Nat.le_refl _) _
  clear hd
  have xc : Below wc.heap.size wc wx := bd.trans (hx.mono (by omega))
  have xb : Below wb.heap.size wb wx := bc.trans (xc.mono (by omega))
  have xa : Below wa.heap.size wa wx := bb.trans (xb.mono (by omega))
  have hz := hx.size
  exact ⟨⟨(xa.cell (p := ⟨w.heap.size, 0, none⟩) (by rw [sa]; exact Nat.lt_succ_self _)).trans ca, (xb.cell (p := ⟨w.heap.size + 1, 0, none⟩) (by rw [sb]; exact Nat.lt_succ_self _)).trans cb, (xc.cell (p := ⟨w.heap.size + 1 + 1, 0, none⟩) (by rw [sc]; exact Nat.lt_succ_self _)).trans cc, (hx.cell (p := ⟨w.heap.size + 1 + 1 + 1, 0, none⟩) (by rw [sd]; exact Nat.lt_succ_self _)).trans cd⟩, by omega, ba.trans (xa.mono (by omega))⟩

set_option maxRecDepth 100000 in
set_option maxHeartbeats 2000000 in
theorem walkCounts_walk (n a z t : Int) (w : World) :
    Calls Try.prog 3 #[.int .i64 n, .int .i64 a, .int .i64 z, .int .i64 t] w fun e w' => e = .returned (.bool true) ∧ Below w.heap.size w w' := by
  obtain ⟨x3, e3, b3, hF3, hQ3, hT3⟩ := part3 n z
  obtain ⟨x4, e4, b4, hF4, hQ4, hT4⟩ := part4 n a z
  obtain ⟨x5, e5, b5, hF5, hQ5, hT5⟩ := part5 n a z t
  obtain ⟨x6, e6, b6, hF6, hQ6, hT6⟩ := part6 n
  obtain ⟨x7, e7, b7, hF7, hQ7, hT7⟩ := part7 n
  have F3 := Lib.hid hF3
  have F4 := Lib.hid hF4
  have F5 := Lib.hid hF5
  have F6 := Lib.hid hF6
  have F7 := Lib.hid hF7
  have Q3 := Lib.hid hQ3
  have Q4 := Lib.hid hQ4
  have Q5 := Lib.hid hQ5
  have Q6 := Lib.hid hQ6
  have Q7 := Lib.hid hQ7
  have T3 := Lib.hid hT3
  have T4 := Lib.hid hT4
  have T5 := Lib.hid hT5
  have T6 := Lib.hid hT6
  have T7 := Lib.hid hT7
  clear hF3 hF4 hF5 hF6 hF7 hQ3 hQ4 hQ5 hQ6 hQ7 hT3 hT4 hT5 hT6 hT7
  have HG := Lib.hid (boxes4 w (.int .i64 n) (.int .i64 a) (.int .i64 z) (.int .i64 t) 3)
  go_enter Try.func3, Try.ntmps3
  go_wp2_with fail
  refine (F3.out _).mono ?_
  rintro e w1 ⟨rfl, hb⟩
  have HD1 := Lib.hid hb
  obtain ⟨⟨c0, c1, c2, c3⟩, _, _⟩ := HG.out _ hb
  clear hb F3
  go_wp2_with fail
  refine (F4.out _).mono ?_
  rintro e w2 ⟨rfl, hb⟩
  have HD2 := Lib.hid (HD1.out.trans (hb.mono HD1.out.size))
  clear c0 c1 c2 c3
  obtain ⟨⟨c0, c1, c2, c3⟩, _, _⟩ := HG.out _ HD2.out
  clear hb F4 HD1
  go_wp2_with fail
  refine (F5.out _).mono ?_
  rintro e w3 ⟨rfl, hb⟩
  have HD3 := Lib.hid (HD2.out.trans (hb.mono HD2.out.size))
  clear c0 c1 c2 c3
  obtain ⟨⟨c0, c1, c2, c3⟩, _, _⟩ := HG.out _ HD3.out
  clear hb F5 HD2
  go_wp2_with fail
  refine (F6.out _).mono ?_
  rintro e w4 ⟨rfl, hb⟩
  have HD4 := Lib.hid (HD3.out.trans (hb.mono HD3.out.size))
  clear c0 c1 c2 c3
  obtain ⟨⟨c0, c1, c2, c3⟩, _, _⟩ := HG.out _ HD4.out
  clear hb F6 HD3
  go_wp2_with fail
  refine (F7.out _).mono ?_
  rintro e w5 ⟨rfl, hb⟩
  have HD5 := Lib.hid (HD4.out.trans (hb.mono HD4.out.size))
  clear c0 c1 c2 c3
  obtain ⟨⟨c0, c1, c2, c3⟩, _, _⟩ := HG.out _ HD5.out
  clear hb F7 HD4
  have HD6 := HD5.out.alloc HD5.out.size (.cells #[.func (.func 15) #[] #[]] 30)
  have es : (w5.alloc (.cells #[.func (.func 15) #[] #[]] 30)).heap.size = w5.heap.size + 1 := by simp
  have HF : Hid (∀ wx, Below (w5.alloc (.cells #[.func (.func 15) #[] #[]] 30)).heap.size (w5.alloc (.cells #[.func (.func 15) #[] #[]] 30)) wx → wx.cell? ⟨w5.heap.size, 0, none⟩ = some (.func (.func 15) #[] #[]) ∧ w5.heap.size < wx.heap.size) := fun wx hb => ⟨by
    rw [hb.cell (p := ⟨w5.heap.size, 0, none⟩) (by rw [es]; exact Nat.lt_succ_self _), World.cell?_alloc_new]; rfl, by have := hb.size; omega⟩
  have I3 := ip_lit (w5.alloc (.cells #[.func (.func 15) #[] #[]] 30)) [z] (by simp)
  rw [es] at I3
  have C3 := Lib.hid (Q3.out _ _ _ I3)
  have HD7 := Lib.hid (HD6.alloc HD6.size (.cells #[.int .i64 z] 3))
  have HE7 : Hid (Below (w5.alloc (.cells #[.func (.func 15) #[] #[]] 30)).heap.size (w5.alloc (.cells #[.func (.func 15) #[] #[]] 30)) ((w5.alloc (.cells #[.func (.func 15) #[] #[]] 30)).alloc (.cells #[.int .i64 z] 3))) := (Below.refl _ _).alloc (Nat.le_refl _) _
  clear c0 c1 c2 c3 I3 es
  obtain ⟨⟨c0, c1, c2, c3⟩, _, _⟩ := HG.out _ HD6
  clear HD6 HD5 Q3
  go_wp2_with fail
  refine C3.out.mono ?_
  rintro e w6 ⟨rfl, hb⟩
  have HD := Lib.hid (HD7.out.trans (hb.mono HD7.out.size))
  have HE := HE7.out.trans (hb.mono HE7.out.size)
  clear c0 c1 c2 c3 hb C3 HD7 HE7
  obtain ⟨⟨c0, c1, c2, c3⟩, hs, _⟩ := HG.out _ HD.out
  obtain ⟨c4, hs4⟩ := HF.out _ HE
  have C := Lib.hid (T3.out w.heap.size w5.heap.size (w.heap.size + 1 + 1) w6 c0 c4 c2 (by omega) (by omega) (by omega))
  clear HE c4 hs hs4 HF T3
  go_wp2_with fail
  refine C.out.mono ?_
  rintro e w7 ⟨rfl, hb⟩
  have HD1 := Lib.hid (HD.out.trans (hb.mono HD.out.size))
  clear c0 c1 c2 c3 hb C HD
  obtain ⟨⟨c0, c1, c2, c3⟩, _, _⟩ := HG.out _ HD1.out
  have C := Lib.hid (Q4.out _ _ _ (ip_lit w7 [a, z] (by simp)))
  have HD2 := Lib.hid (HD1.out.alloc HD1.out.size (.cells #[.int .i64 a, .int .i64 z] 3))
  clear Q4 HD1
  go_wp2_with fail
  refine C.out.mono ?_
  rintro e w8 ⟨rfl, hb⟩
  have HD := Lib.hid (HD2.out.trans (hb.mono HD2.out.size))
  clear c0 c1 c2 c3 hb C HD2
  obtain ⟨⟨c0, c1, c2, c3⟩, hs, _⟩ := HG.out _ HD.out
  have C := Lib.hid (T4.out w.heap.size (w.heap.size + 1) (w.heap.size + 1 + 1) w8 c0 c1 c2 (by omega) (by omega) (by omega))
  clear hs T4
  go_wp2_with fail
  refine C.out.mono ?_
  rintro e w9 ⟨rfl, hb⟩
  have HD1 := Lib.hid (HD.out.trans (hb.mono HD.out.size))
  clear c0 c1 c2 c3 hb C HD
  obtain ⟨⟨c0, c1, c2, c3⟩, _, _⟩ := HG.out _ HD1.out
  have C := Lib.hid (Q5.out _ _ _ (ip_lit w9 [a, z, t] (by simp)))
  have HD2 := Lib.hid (HD1.out.alloc HD1.out.size (.cells #[.int .i64 a, .int .i64 z, .int .i64 t] 3))
  clear Q5 HD1
  go_wp2_with fail
  refine C.out.mono ?_
  rintro e w10 ⟨rfl, hb⟩
  have HD := Lib.hid (HD2.out.trans (hb.mono HD2.out.size))
  clear c0 c1 c2 c3 hb C HD2
  obtain ⟨⟨c0, c1, c2, c3⟩, hs, _⟩ := HG.out _ HD.out
  have C := Lib.hid (T5.out w.heap.size (w.heap.size + 1) (w.heap.size + 1 + 1 + 1) (w.heap.size + 1 + 1) w10 c0 c1 c2 c3 (by omega) (by omega) (by omega) (by omega))
  clear hs T5
  go_wp2_with fail
  refine C.out.mono ?_
  rintro e w11 ⟨rfl, hb⟩
  have HD1 := Lib.hid (HD.out.trans (hb.mono HD.out.size))
  clear c0 c1 c2 c3 hb C HD
  obtain ⟨⟨c0, c1, c2, c3⟩, _, _⟩ := HG.out _ HD1.out
  go_wp2_with fail
  refine (Q6.out _).mono ?_
  rintro e w12 ⟨rfl, hb⟩
  have HD := Lib.hid (HD1.out.trans (hb.mono HD1.out.size))
  clear c0 c1 c2 c3 hb Q6 HD1
  obtain ⟨⟨c0, c1, c2, c3⟩, hs, _⟩ := HG.out _ HD.out
  have C := Lib.hid (T6.out w.heap.size w12 c0 (by omega))
  clear hs T6
  go_wp2_with fail
  refine C.out.mono ?_
  rintro e w13 ⟨rfl, hb⟩
  have HD1 := Lib.hid (HD.out.trans (hb.mono HD.out.size))
  clear c0 c1 c2 c3 hb C HD
  obtain ⟨⟨c0, c1, c2, c3⟩, hs, hB⟩ := HG.out _ HD1.out
  have HB := Lib.hid hB
  have C := Lib.hid (T7.out w.heap.size w13 c0)
  clear hs hB T7 HD1 HG
  rcases Q7.out with ⟨h1, rfl⟩ | ⟨h1, h2, rfl⟩ | ⟨h1, h2, rfl⟩
  · clear Q7
    have t0 : decide (n < 0) = true := decide_eq_true (by omega)
    clear h1
    go_wp2_with fail
    refine C.out.mono ?_
    rintro e w14 ⟨rfl, hb⟩
    have HB2 := Lib.hid (HB.out.trans (hb.mono HB.out.size))
    clear c0 c1 c2 c3 hb C HB
    go_wp2
    go_ret
    exact ⟨rfl, HB2.out⟩
  · clear Q7
    have t0 : decide (n < 0) = false := decide_eq_false (by omega)
    have t1 : decide (28 < n) = true := decide_eq_true (by omega)
    clear h1 h2
    go_wp2_with fail
    refine C.out.mono ?_
    rintro e w14 ⟨rfl, hb⟩
    have HB2 := Lib.hid (HB.out.trans (hb.mono HB.out.size))
    clear c0 c1 c2 c3 hb C HB
    go_wp2
    go_ret
    exact ⟨rfl, HB2.out⟩
  · clear Q7
    have t0 : decide (n < 0) = false := decide_eq_false (by omega)
    have t1 : decide (28 < n) = false := decide_eq_false (by omega)
    clear h1 h2
    go_wp2_with fail
    refine C.out.mono ?_
    rintro e w14 ⟨rfl, hb⟩
    have HB2 := Lib.hid (HB.out.trans (hb.mono HB.out.size))
    clear c0 c1 c2 c3 hb C HB
    go_wp2
    go_ret
    exact ⟨rfl, HB2.out⟩
end Go.Proofs.Ytojoecoocbjgaaa
