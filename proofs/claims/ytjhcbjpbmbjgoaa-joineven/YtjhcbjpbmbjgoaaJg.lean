/- lotdrawerkeep.draws: what stays while it counts. -/
import Derived.Test.YtjhcbjpbmbjgoaaMf
import Derived.Test.YtjhcbjpbmbjgoaaZx
import Derived.Test.YtjhcbjpbmbjgoaaJ6
namespace Go.Proofs.Ytjhcbjpbmbjgoaa
open Go.RowKit Go.Deep Go.Maps

theorem IP.kpM {M : Nat} {U : List (Nat × Nat)} {w w' : World} {A : Option Addr} {ca : Nat} {xs : List Int} (h : IP w A ca xs) (hm : WM w M U) (hk : Kp (fun k => k = M) w w') : IP w' A ca xs := by
  refine ⟨?_, h.le, h.cap, h.none⟩
  intro h0
  have hl : 0 < xs.length := by rwa [ivs_len] at h0
  obtain ⟨b, off, rfl, hb, hc⟩ := h.il.at hl
  have hn : ¬ b = M := by
    rintro rfl
    obtain ⟨D, ⟨es, clock, h1, _⟩, _⟩ := hm
    have := hc 0 hl
    simp [World.cell?, h1] at this
  have hbl := hk.block b hb hn
  refine ⟨b, off, rfl, Nat.lt_of_lt_of_le hb hk.size, fun j hj => ?_⟩
  rw [ivs_len] at hj
  rw [World.cell?_of_block (w := w) hbl, hc j hj, ivs_at hj]
/-- The arguments as variables, the map. -/
structure DV (w : World) (M : Nat) (R n m : Int) (A B : Option Addr) (ca cb : Nat) (x y : List Nat) (U : List (Nat × Nat)) (wr : World) : Prop where
  mp : WM wr M U
  a : PB wr w.heap.size R n (.slice A x.length ca)
  b : PB wr (w.heap.size + 1) R m (.slice B y.length cb)
  ia : IP wr A ca (inN x)
  ib : IP wr B cb (inN y)
  lt : M < w.heap.size
  k : Kp (fun k => k = M) w wr
section
variable {w wr w' : World} {M : Nat} {R n m : Int} {A B : Option Addr} {ca cb : Nat} {x y : List Nat} {U V : List (Nat × Nat)}
theorem DV.size (h : DV w M R n m A B ca cb x y U wr) : w.heap.size + 1 < wr.heap.size := Bs.lt h.b
theorem DV.later (h : DV w M R n m A B ca cb x y U wr) (hb : Below wr.heap.size wr w') : DV w M R n m A B ca cb x y U w' :=
  ⟨h.mp.later hb, h.a.later hb, h.b.later hb, h.ia.later hb, h.ib.later hb, h.lt, h.k.trans (Kp.of_below hb)⟩
theorem DV.put (h : DV w M R n m A B ca cb x y U wr) (hm : WM w' M V) (hg : wr.grownBy w' (some M)) : DV w M R n m A B ca cb x y V w' := by
  have hk : Kp (fun k => k = M) wr w' := Kp.of_grown hg rfl
  have hl := h.lt
  exact ⟨hm, Bs.kp h.a hk (by omega), Bs.kp h.b hk (by omega), h.ia.kpM h.mp hk, h.ib.kpM h.mp hk, h.lt, h.k.trans hk⟩
end
theorem DV.new {w : World} {M : Nat} {R n m : Int} {A B : Option Addr} {ca cb : Nat} {x y : List Nat} {U : List (Nat × Nat)} (hm : WM w M U) (ha : IP w A ca (inN x)) (hb : IP w B cb (inN y)) :
    DV w M R n m A B ca cb x y U ((w.alloc (.cells #[.int .i64 R, .int .i64 n, .slice A x.length ca] 28)).alloc (.cells #[.int .i64 R, .int .i64 m, .slice B y.length cb] 28)) := by
  have hbl : Below w.heap.size w ((w.alloc (.cells #[.int .i64 R, .int .i64 n, .slice A x.length ca] 28)).alloc (.cells #[.int .i64 R, .int .i64 m, .slice B y.length cb] 28)) := ((Below.refl _ _).alloc (Nat.le_refl _) _).alloc (by simp) _
  refine ⟨hm.later hbl, (PB.new w R n _).alloc _, ?_, ha.later hbl, hb.later hbl, hm.lt, Kp.of_below hbl⟩
  have := PB.new (w.alloc (.cells #[.int .i64 R, .int .i64 n, .slice A x.length ca] 28)) R m (.slice B y.length cb)
  simpa using this
theorem ways_lt {all : Nat} (h : all ≤ 5) : ∀ k, waysJ all k ≤ 5 ^ k
  | 0 => Nat.le_refl _
  | k + 1 => by
    rw [waysJ, Nat.pow_succ]
    exact Nat.mul_le_mul (ways_lt h k) (by omega)
theorem OS.step_a {s : OS} {d : Nat} (h : d < s.na) : s.step d = ⟨s.na - 1, s.nb, s.ha - 1, s.hb, s.own ++ [s.ha], s.many * s.ha⟩ := by
  unfold OS.step
  rw [if_neg (by omega)]
theorem OS.step_b {s : OS} {d : Nat} (h : s.na ≤ d) : s.step d = ⟨s.na, s.nb - 1, s.ha, s.hb - 1, s.own ++ [s.hb], s.many * s.hb⟩ := if_pos h
theorem st_own {R n m X : Nat} : ∀ {k : Nat}, k ≤ R → (stJ R n m X k).own.length = k
  | 0, _ => rfl
  | k + 1, h => by
    have ih := st_own (R := R) (n := n) (m := m) (X := X) (k := k) (by omega)
    rw [stJ_step h]
    unfold OS.step
    split <;> simp [ih]
/-- Where the loop of the owners stands. -/
structure OW (L H : Nat) (w1 : World) (s : OS) (ov : Value) (wr : World) : Prop where
  o : OI wr (H + 1) ov (inN s.own)
  l : Bs 3 wr L [.int .i64 (s.na : Nat), .int .i64 (s.nb : Nat)]
  h : Bs 3 wr H [.int .i64 (s.ha : Nat), .int .i64 (s.hb : Nat)]
  lh : L < H
  b : w1.heap.size ≤ L
  bl : Below w1.heap.size w1 wr
theorem OW.push {L H : Nat} {w1 wr w2 : World} {s : OS} {ov : Value} {o : Obj} (h : OW L H w1 s ov wr) (hg : (wr.alloc o).grownBy w2 ov.ownBlock) :
    Bs 3 w2 L [.int .i64 (s.na : Nat), .int .i64 (s.nb : Nat)] ∧ Bs 3 w2 H [.int .i64 (s.ha : Nat), .int .i64 (s.hb : Nat)] := by
  have hne : ∀ k, k ≤ H → some k ≠ ov.ownBlock := fun k hk e => by have := (World.ownsRow.lt h.o k e.symm).1; omega
  have l1 := (Below.heap_alloc wr o L (Bs.lt h.l)).trans h.l
  have h1 := (Below.heap_alloc wr o H (Bs.lt h.h)).trans h.h
  have := h.lh
  exact ⟨(hg.block L (Bs.lt l1) (hne L (by omega))).trans l1, (hg.block H (Bs.lt h1) (hne H (by omega))).trans h1⟩
theorem OW.fin {L H i : Nat} {w1 w2 : World} {s t : OS} {ov : Value} {a b : Value} (hO : OI w2 (H + 1) ov (inN t.own)) (hL : Bs 3 w2 L [.int .i64 (s.na : Nat), .int .i64 (s.nb : Nat)]) (hH : Bs 3 w2 H [.int .i64 (s.ha : Nat), .int .i64 (s.hb : Nat)]) (lh : L < H) (b1 : w1.heap.size ≤ L) (hB : Below w1.heap.size w1 w2)
    (e1 : [Value.int .i64 (s.na : Nat), .int .i64 (s.nb : Nat)].set i a = [.int .i64 (t.na : Nat), .int .i64 (t.nb : Nat)]) (e2 : [Value.int .i64 (s.ha : Nat), .int .i64 (s.hb : Nat)].set i b = [.int .i64 (t.ha : Nat), .int .i64 (t.hb : Nat)]) :
    OW L H w1 t ov ((w2.setCell ⟨L, i, none⟩ a).setCell ⟨H, i, none⟩ b) := by
  have nl : ov.ownBlock ≠ some L := fun e => by have := (World.ownsRow.lt hO L e).1; omega
  have nh : ov.ownBlock ≠ some H := fun e => by have := (World.ownsRow.lt hO H e).1; omega
  have l2 := Bs.set hL i a
  have h2 : Bs 3 (w2.setCell ⟨L, i, none⟩ a) H [.int .i64 (s.ha : Nat), .int .i64 (s.hb : Nat)] := (Below.heap_setCell _ _ _ _ (by show H ≠ L; omega)).trans hH
  have h3 := Bs.set h2 i b
  rw [e1] at l2
  rw [e2] at h3
  exact ⟨ownsRow_setCell_other (ownsRow_setCell_other hO nl _) nh _, (Below.heap_setCell _ _ _ _ (by show L ≠ H; omega)).trans l2, h3, lh, b1, (hB.setCell (p := ⟨L, i, none⟩) b1 _).setCell (p := ⟨H, i, none⟩) (by show w1.heap.size ≤ H; omega) _⟩
end Go.Proofs.Ytjhcbjpbmbjgoaa
