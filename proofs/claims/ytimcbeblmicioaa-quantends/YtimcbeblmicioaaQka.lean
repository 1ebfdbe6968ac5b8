/- quant.insert. -/
import Derived.Test.YtimcbeblmicioaaQk9
namespace Go.Proofs.Ytimcbeblmicioaa
open Go.RowKit Go.Deep

theorem enters_behind (args : Array Value) (w : World) : (callFunc 45 args).run Try.prog w = .ok (.enter 45 args) w := enters_of Try.func45 (by kernel_rfl) rfl args w
theorem hmfI : ∀ (fn : Fn) (first cap : Array Value) (w : World), (Instr.makeFunc fn first cap).run Try.prog w = .ok (.func fn first cap) w := fun _ _ _ _ => rfl

set_option maxRecDepth 100000 in
set_option maxHeartbeats 2500000 in
theorem insertQ_any (B : Nat) (v : Value) (S : List Rk) (x : Int) (w : World) (h : OR w B v S) (hs : qsrt S) (he : ∀ r ∈ S, 1 ≤ r.g ∧ r.g ≤ 1099511627776 ∧ 0 ≤ r.m ∧ r.m ≤ 1099511627776) (hl : S.length ≤ 400) (hBw : B ≤ w.heap.size) :
    Calls Try.prog 38 #[v, .int .i64 x] w fun e w' => ∃ v', e = .returned v' ∧ OR w' B v' (qins S x) ∧ Below B w w' := by
  have hmf := hmfI
  obtain ⟨R, cap, rfl, hP⟩ := h.rp
  have hle := hP.le
  have hcap := hP.cap
  have hb1 := (Below.refl w.heap.size w).alloc (Nat.le_refl _) (.cells #[.int .i64 x] 3)
  have hsz : (w.alloc (.cells #[.int .i64 x] 3)).heap.size = w.heap.size + 1 := by simp
  have hcx : (w.alloc (.cells #[.int .i64 x] 3)).cell? ⟨w.heap.size, 0, none⟩ = some (.int .i64 x) := cell_of_row _ w.heap.size 0 #[.int .i64 x] 3 (0, 0) (heap_alloc_new w _)
  have hP1 := hP.later hb1
  have HO1 := Lib.hid (h.alloc (.cells #[.int .i64 x] 3))
  have C1 : Hid (Calls Try.prog 39 #[.slice R S.length cap, .func (.func 45) #[] #[.pointer (some ⟨w.heap.size, 0, none⟩)]] (w.alloc (.cells #[.int .i64 x] 3)) fun e w' => ∃ r, e = .returned (.int .i64 r) ∧ QxP (fun r => decide (x < r.n)) S r ∧ Below (w.alloc (.cells #[.int .i64 x] 3)).heap.size (w.alloc (.cells #[.int .i64 x] 3)) w') :=
    indexF_any _ #[.pointer (some ⟨w.heap.size, 0, none⟩)] _ R cap S _ hP1 enters_behind (fun a k hk hba => behind_any (rat S k) w.heap.size x a ((hba.cell (p := ⟨w.heap.size, 0, none⟩) (by rw [hsz]; show w.heap.size < _; omega)).trans hcx) (by have := hba.size; rw [hsz] at this; omega))
  have HB1 := Lib.hid hb1
  have HX1 : Hid (∀ w', Below (w.alloc (.cells #[.int .i64 x] 3)).heap.size (w.alloc (.cells #[.int .i64 x] 3)) w' → w'.cell? ⟨w.heap.size, 0, none⟩ = some (.int .i64 x) ∧ OR w' B (.slice R S.length cap) S ∧ Below w.heap.size w w' ∧ w.heap.size < w'.heap.size) := fun w' hb => ⟨(hb.cell (p := ⟨w.heap.size, 0, none⟩) (by rw [hsz]; show w.heap.size < _; omega)).trans hcx, HO1.out.later hb, hb1.trans (hb.mono (by rw [hsz]; omega)), by have := hb.size; rw [hsz] at this; omega⟩
  have HS := Lib.hid hs
  have HE := Lib.hid he
  clear h hP hP1 hb1 hsz hcx hs he
  go_enter Try.func38, Try.ntmps38
  go_wp2_with fail
  refine C1.out.mono ?_
  rintro e w2 ⟨r, rfl, hr, hb⟩
  obtain ⟨c0, hO2, hB2, hsz2⟩ := HX1.out w2 hb
  have HO2 := Lib.hid hO2
  have HB2 := Lib.hid hB2
  obtain ⟨k, hk, q1, q2, hcase⟩ := hr.place HS.out
  have HQ := Lib.hid (qins_at hk q1 q2)
  have HNE : Hid (∀ H, w2.heap.size ≤ H → (Value.slice R S.length cap).ownBlock ≠ some H) := fun H hH e => by
    have := (HO2.out.blk e).2
    omega
  have CI : Hid (∀ (M : Int) (H : Nat) (w4 : World), OR w4 B (.slice R S.length cap) S → Bs 33 w4 H (yv ⟨x, 1, M⟩) → w2.heap.size ≤ H → B ≤ w4.heap.size → Calls Try.prog 46 #[.slice R S.length cap, .int .i64 k, .slice (some ⟨H, 0, none⟩) 1 1] w4 fun e w' => ∃ v', e = .returned v' ∧ OR w' B v' (S.take k ++ ⟨x, 1, M⟩ :: S.drop k) ∧ Below B w4 w') := fun M H w4 h1 h2 h3 h4 => insertR_any B k H _ S ⟨x, 1, M⟩ w4 h1 hk (by omega) h2 (HNE.out H h3) h4
  clear hb hO2 hB2 C1 HX1 HO1 HB1 q1 q2 hr HNE
  have hB3 : ∀ (M : Int) (o1 o2 : Obj), Below w.heap.size w ((w2.alloc o1).alloc o2) := fun M o1 o2 => (HB2.out.alloc (by have := HB2.out.size; omega) o1).alloc (by have := HB2.out.size; simp; omega) o2
  have HB3 := Lib.hid hB3
  clear hB3
  have hH : Hid (∀ (o1 : Obj) (M : Int), Bs 33 ((w2.alloc o1).alloc (.cells #[.int .i64 x, .int .i64 1, .int .i64 M] 33)) (w2.heap.size + 1) (yv ⟨x, 1, M⟩)) := fun o1 M => heap_alloc2_new w2 o1 (.cells #[.int .i64 x, .int .i64 1, .int .i64 M] 33)
  have HO4 : Hid (∀ o1 o2, OR ((w2.alloc o1).alloc o2) B (.slice R S.length cap) S) := fun o1 o2 => (HO2.out.alloc o1).alloc o2
  have HBB : Hid (B ≤ w2.heap.size) := by show _ ≤ _; have := HB2.out.size; omega
  rcases hcase with ⟨rfl, rfl⟩ | ⟨rfl, hk2⟩
  · rw [if_neg (by omega)] at HQ
    have CX := Lib.hid (CI.out 0 (w2.heap.size + 1) _ (HO4.out (.cells #[.int .i64 x, .int .i64 1, .int .i64 0] 33) (.cells #[.int .i64 x, .int .i64 1, .int .i64 0] 33)) (hH.out _ 0) (by omega) (by have := HBB.out; simp; omega))
    clear CI hH HO4
    go_wp2_with fail
    all_goals
      refine CX.out.mono ?_
      rintro e w5 ⟨v', rfl, h5, hb5⟩
      go_wp2
      go_ret
      exact ⟨v', rfl, by rw [HQ.out]; exact h5, ((HB3.out 0 _ _).mono hBw).trans hb5⟩
  · have hki : (k : Int) < (S.length : Int) := by omega
    have hk0 : ¬ (k : Int) < 0 := by omega
    by_cases hk1 : k = 0
    · subst hk1
      rw [if_neg (by omega)] at HQ
      have CX := Lib.hid (CI.out 0 (w2.heap.size + 1) _ (HO4.out (.cells #[.int .i64 x, .int .i64 1, .int .i64 0] 33) (.cells #[.int .i64 x, .int .i64 1, .int .i64 0] 33)) (hH.out _ 0) (by omega) (by have := HBB.out; simp; omega))
      clear CI hH HO4
      go_wp2_with fail
      refine CX.out.mono ?_
      rintro e w5 ⟨v', rfl, h5, hb5⟩
      go_wp2
      go_ret
      exact ⟨v', rfl, by rw [HQ.out]; exact h5, ((HB3.out 0 _ _).mono hBw).trans hb5⟩
    · rw [if_pos ⟨by omega, hk2⟩] at HQ
      have hkp : (0 : Int) < (k : Int) := by omega
      obtain ⟨g, c, e, hBg, hg, _, _, hf⟩ := HO2.out.form rfl (by omega)
      injection e with e1 e2 e3
      subst e1 e3
      obtain ⟨_, k1, k2⟩ := hf.at hk2
      obtain ⟨b1, b2, b3, b4⟩ := HE.out _ (rat_mem hk2)
      have CX := Lib.hid (CI.out ((rat S k).g + (rat S k).m - 1) (w2.heap.size + 1) ((w2.alloc (.cells #[.int .i64 x, .int .i64 1, .int .i64 ((rat S k).g + (rat S k).m - 1)] 33)).drew.alloc (.cells #[.int .i64 x, .int .i64 1, .int .i64 ((rat S k).g + (rat S k).m - 1)] 33)) (HO4.out (.cells #[.int .i64 x, .int .i64 1, .int .i64 ((rat S k).g + (rat S k).m - 1)] 33) (.cells #[.int .i64 x, .int .i64 1, .int .i64 ((rat S k).g + (rat S k).m - 1)] 33)) (hH.out _ _) (by omega) (by have := HBB.out; simp; omega))
      have HBX : Hid (∀ o1 o2, Below w.heap.size w ((w2.alloc o1).drew.alloc o2)) := fun o1 o2 => (HB2.out.alloc (by have := HB2.out.size; omega) o1).drew.alloc (by have := HB2.out.size; simp; omega) o2
      clear CI hH HO4 hf HE HB3
      generalize (rat S k).g = kg at *
      generalize (rat S k).m = km at *
      go_wp2_with fail
      go_region
      go_wp2_with fail
      refine CX.out.mono ?_
      rintro e w5 ⟨v', rfl, h5, hb5⟩
      go_wp2
      go_ret
      exact ⟨v', rfl, by rw [HQ.out]; exact h5, ((HBX.out _ _).mono hBw).trans hb5⟩
end Go.Proofs.Ytimcbeblmicioaa
