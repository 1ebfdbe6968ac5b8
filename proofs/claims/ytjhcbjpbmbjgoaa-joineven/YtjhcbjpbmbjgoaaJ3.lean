/- join.whole. -/
import Derived.Test.YtjhcbjpbmbjgoaaJ2
namespace Go.Proofs.Ytjhcbjpbmbjgoaa
open Go.RowKit Go.Deep

/-- Block g is a variable that holds a stream. -/
def TB (w : World) (g : Nat) (n : Int) (v : Value) : Prop := Bs 68 w g [.int .i64 n, v]
theorem TB.at {w : World} {g : Nat} {n : Int} {v : Value} (h : TB w g n v) : w.cell? ⟨g, 0, none⟩ = some (.int .i64 n) ∧ w.cell? ⟨g, 1, none⟩ = some v ∧ w.frozen? ⟨g, 0, none⟩ = false ∧ w.frozen? ⟨g, 1, none⟩ = false :=
  ⟨Bs.cell h (j := 0) (by simp), Bs.cell h (j := 1) (by simp), Bs.frozen h 0, Bs.frozen h 1⟩
theorem TB.below {w w' : World} {B g : Nat} {n : Int} {v : Value} (h : TB w g n v) (hb : Below B w w') (hg : g < B) : TB w' g n v := Bs.below h hb hg
theorem TB.set {w : World} {g : Nat} {n : Int} {v : Value} (h : TB w g n v) (m : Int) (u : Value) : TB ((w.setCell ⟨g, 0, none⟩ (.int .i64 m)).setCell ⟨g, 1, none⟩ u) g m u := Bs.set (Bs.set h 0 (.int .i64 m)) 1 u
theorem OI.apartC {w : World} {B k : Nat} {v : Value} {xs : List Int} (h : OI w B v xs) (hk : k < B) (j : Nat) (x : Value) : OI (w.setCell ⟨k, j, none⟩ x) B v xs := by
  refine ownsRow_setCell_other h (fun e => ?_) x
  rcases h.ge hk with e2 | e2
  · rw [e2] at e; cases e
  · exact e2 e
theorem ret_stream {fn : Func} {p : Tmp} (h : fn.results = #[.cell p 68]) {R : Ending → World → Prop} {a : Act} {w : World} {g : Nat} {n : Int} {v : Value} (hp : a.tmps.getD p undef = .pointer (some ⟨g, 0, none⟩))
    (hg : Bs 68 w g [.int .i64 n, v]) (hd : a.defers = []) (hR : R (.returned (sv n v)) w) : bodyPost Try.prog fn R .ret a w :=
  bodyPost_ret (results_cell_row h a.tmps w g 68 #[.int .i64 n, v] (0, 0) _ hp hg Try.underlying68 rfl (by kernel_rfl)) hd hR
set_option maxRecDepth 100000 in
set_option maxHeartbeats 2000000 in
theorem whole_any (r c : Int) (A : Option Addr) (ca : Nat) (xs : List Int) (w : World) (hx : IP w A ca xs) (hl : xs.length ≤ 400) :
    Calls Try.prog 35 #[pv r c (.slice A xs.length ca)] w fun e w' => ∃ v, e = .returned (sv c v) ∧ OI w' w.heap.size v xs ∧ Below w.heap.size w w' := by
  have HP := Lib.hid ((PB.new w r c (.slice A xs.length ca)).alloc (.cells #[.int .i64 0, .slice none 0 0] 68))
  have hQ : Bs 68 ((w.alloc (.cells #[.int .i64 r, .int .i64 c, .slice A xs.length ca] 28)).alloc (.cells #[.int .i64 0, .slice none 0 0] 68)) (w.heap.size + 1) [.int .i64 0, .slice none 0 0] := heap_alloc2_new w _ _
  have HQ := Lib.hid hQ
  have b1 : Below w.heap.size w ((w.alloc (.cells #[.int .i64 r, .int .i64 c, .slice A xs.length ca] 28)).alloc (.cells #[.int .i64 0, .slice none 0 0] 68)) := ((Below.refl _ _).alloc (Nat.le_refl _) _).alloc (by simp) _
  have HB := Lib.hid b1
  have HX := Lib.hid (hx.later b1)
  have hsz : ((w.alloc (.cells #[.int .i64 r, .int .i64 c, .slice A xs.length ca] 28)).alloc (.cells #[.int .i64 0, .slice none 0 0] 68)).heap.size = w.heap.size + 2 := by simp
  obtain ⟨c0, c1, c2, _⟩ := HP.out.at
  have HCC := Lib.hid (And.intro c1 c2)
  clear hx b1 hQ
  unfold pv
  go_enter Try.func35, Try.ntmps35
  go_wp2_with fail
  generalize (w.alloc (.cells #[.int .i64 r, .int .i64 c, .slice A xs.length ca] 28)).alloc (.cells #[.int .i64 0, .slice none 0 0] 68) = wa at *
  have HQ2 : Hid (TB wa.drew (w.heap.size + 1) 0 (.slice none 0 0)) := HQ.out
  have CC := Lib.hid (clone_any A ca xs wa.drew (HX.out.later (Below.refl _ wa).drew) (by omega))
  go_region_held3 (fun w' => w'.cell? ⟨w.heap.size, 1, none⟩ = some (.int .i64 c) ∧ w'.cell? ⟨w.heap.size, 2, none⟩ = some (.slice A xs.length ca)) (go_keep)
    (first | (go_at_call 21; refine CC.out.mono ?_; rintro e w2 ⟨v, rfl, hO, hb2⟩; obtain ⟨R, cr, rfl⟩ := hO.shape; have f1 := (hb2.cell (p := ⟨w.heap.size, 1, none⟩) (by show w.heap.size < wa.heap.size; omega)).trans HCC.out.1; have f2 := (hb2.cell (p := ⟨w.heap.size, 2, none⟩) (by show w.heap.size < wa.heap.size; omega)).trans HCC.out.2; obtain ⟨g0, g1, z0, z1⟩ := TB.at (TB.below HQ2.out hb2 (by show w.heap.size + 1 < wa.heap.size; omega)); have HO := Lib.hid hO; have HB2 := Lib.hid hb2; clear hO hb2))
  go_wp2
  have hs1 : TB ((w2.setCell ⟨w.heap.size + 1, 0, none⟩ (.int .i64 c)).setCell ⟨w.heap.size + 1, 1, none⟩ (.slice R xs.length cr)) (w.heap.size + 1) c (.slice R xs.length cr) := TB.set (TB.below HQ2.out HB2.out (by show w.heap.size + 1 < wa.heap.size; omega)) c _
  have hdz : wa.drew.heap.size = w.heap.size + 2 := hsz
  refine ret_stream rfl rfl hs1 rfl ⟨_, rfl, OI.lower (B := wa.drew.heap.size) ?_ (by omega), ?_⟩
  · exact (HO.out.apartC (by omega) 0 _).apartC (by omega) 1 _
  · exact ((HB.out.drew.trans (HB2.out.mono (by omega))).setCell (p := ⟨w.heap.size + 1, 0, none⟩) (by simp) _).setCell (p := ⟨w.heap.size + 1, 1, none⟩) (by simp) _
end Go.Proofs.Ytjhcbjpbmbjgoaa
