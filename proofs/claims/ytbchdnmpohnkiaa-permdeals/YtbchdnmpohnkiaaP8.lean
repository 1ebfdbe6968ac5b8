/- perm.Deal. -/
import Derived.Test.YtbchdnmpohnkiaaP7
import Derived.Test.YtbchdnmpohnkiaaP2
import Derived.Test.YtbchdnmpohnkiaaPr
namespace Go.Proofs.Ytbchdnmpohnkiaa
open Go.RowKit Go.Deep Go.Shelf

attribute [local go_sem] Oper.semAt_some

/-- What stands between two rounds: the box of p, its cells. -/
def DRel (w : World) (P : Nat) (ds : List Int) (pre : List Nat) (W : World) : Prop :=
  (Boxed W P 22 (.slice (some ⟨w.heap.size, 0, none⟩) ds.length ds.length) ∧ Bs 3 W w.heap.size (ivs (dls ds pre))) ∧ Below w.heap.size w W
theorem bs_own {T g : Nat} {f : List Nat → List Value} : Own (fun pre W => Bs T W g (f pre)) := fun s A B row hs hg hr => by
  refine (hg.block g hs.lt (fun e => ?_)).trans hs
  obtain ⟨o, ho, hc⟩ := hr g e.symm
  have : A.heap[g]? = _ := hs
  rw [this] at ho
  cases ho
  cases hc
theorem boxed_own2 {B t : Nat} {v : Value} : Own (fun (_ : List Nat) W => Boxed W B t v) := fun s A B row hs hg hr => by
  refine hs.kept hg (fun e => ?_)
  obtain ⟨o, ho, hc⟩ := hr _ e.symm
  have : A.heap[_]? = _ := hs
  rw [this] at ho
  cases ho
  cases hc

theorem drel_own {w : World} {P B : Nat} {ds : List Int} (hB : w.heap.size ≤ B) : OwnFrom B (DRel w P ds) :=
  OwnFrom.and (OwnFrom.and (Own.from boxed_own2 _) (Own.from (bs_own (f := fun pre => ivs (dls ds pre))) _)) (ownFrom_below (Nat.le_refl _) hB)

set_option maxRecDepth 100000 in
set_option maxHeartbeats 2000000 in
theorem permDeal_bad (A : Option Addr) (ca : Nat) (ds : List Int) (w : World) (hd : IP w A ca ds) (hno : ¬ okD ds) :
    Calls Try.prog 9 #[.slice A ds.length ca] w (LPost w ([], 2)) := by
  have hle := hd.le
  have hcap := hd.cap
  have HD := Lib.hid hd
  have HN := Lib.hid hno
  clear hd hno
  by_cases h20 : 20 < ds.length
  · go_enter Try.func9, Try.ntmps9
    go_wp2
    go_ret2
    exact lpost_none (Below.refl _ _)
  · have t1 : decide ((20 : Int) < (ds.length : Int)) = false := by rw [decide_eq_false_iff_not]; omega
    have t2 : decide (20 < ds.length) = false := by rw [decide_eq_false_iff_not]; omega
    go_enter Try.func9, Try.ntmps9
    go_wp2_with fail
    go_loopw [14] (fun iv wr => ∃ k : Nat, k ≤ ds.length ∧ iv = .int .i64 k ∧ (∀ j, j < k → 0 ≤ ds.getD j 0 ∧ ds.getD j 0 ≤ (j : Int)) ∧ wr = w) (fun iv _ => ds.length - (intOf iv).toNat)
    case atStart => exact ⟨0, by omega, rfl, fun j hj => absurd hj (by omega), rfl⟩
    case round =>
      obtain ⟨k, hk, rfl, hO, rfl⟩ := hrel
      have HO := Lib.hid hO
      clear hO
      by_cases hlt : k < ds.length
      · obtain ⟨b, off, rfl, _, hc⟩ := HD.out.il.at (by omega)
        have hci := hc k hlt
        clear hc
        by_cases h0 : ds.getD k 0 < 0
        · generalize ds.getD k 0 = x at *
          go_wp2
          go_ret2
          exact lpost_none (Below.refl _ _)
        · by_cases h1 : (k : Int) < ds.getD k 0
          · generalize ds.getD k 0 = x at *
            go_wp2
            go_ret2
            exact lpost_none (Below.refl _ _)
          · have HO2 : Hid (∀ j, j < k + 1 → 0 ≤ ds.getD j 0 ∧ ds.getD j 0 ≤ (j : Int)) := fun j hj => by
              by_cases e : j = k
              · subst e; omega
              · exact HO.out j (by omega)
            generalize ds.getD k 0 = x at *
            go_wp2
            go_roundw
            case rel => exact ⟨k + 1, by omega, by go_num, HO2.out, trivial⟩
            case measure => simp [intOf]; omega
      · obtain rfl : ds.length = k := by omega
        exact absurd ⟨by omega, HO.out⟩ HN.out

set_option maxRecDepth 100000 in
set_option maxHeartbeats 2000000 in
theorem permDeal_good (A : Option Addr) (ca : Nat) (ds : List Int) (w : World) (hd : IP w A ca ds) (hok : okD ds) :
    Calls Try.prog 9 #[.slice A ds.length ca] w (LPost w (dealt ds, 0)) := by
  have hle := hd.le
  have hcap := hd.cap
  have HD := Lib.hid hd
  have HK := Lib.hid hok
  have hlen := hok.1
  clear hd hok
  have t1 : decide ((20 : Int) < (ds.length : Int)) = false := by rw [decide_eq_false_iff_not]; omega
  have t2 : decide (20 < ds.length) = false := by rw [decide_eq_false_iff_not]; omega
  refine (callsIn_wide (n := 3)).1 ?_
  refine callsIn_of_wp_marks Try.func9 rfl trivial ?_ rfl
  simp only [Try.ntmps9, List.size_toArray, List.length_cons, List.length_nil, Nat.reduceAdd, Nat.reduceSub, Array.replicate_succ, Array.replicate_zero, List.push_toArray, List.append_toArray, List.nil_append, List.cons_append]
  gi_wp2
  gi_loopw [14] (fun iv wr => ∃ k : Nat, k ≤ ds.length ∧ iv = .int .i64 k ∧ wr = w) (fun iv _ => ds.length - (intOf iv).toNat)
  case atStart => exact ⟨0, by omega, rfl, rfl⟩
  case round =>
    obtain ⟨k, hk, rfl, rfl⟩ := hrel
    by_cases hlt : k < ds.length
    · obtain ⟨b, off, rfl, _, hc⟩ := HD.out.il.at (by omega)
      have hci := hc k hlt
      obtain ⟨e, hx, he⟩ := okD_at HK.out hlt
      rw [hx] at hci
      clear hc hx
      gi_wp2
      go_roundw
      case rel => exact ⟨k + 1, by omega, by go_num, trivial⟩
      case measure => simp [intOf]; omega
    · obtain rfl : ds.length = k := by omega
      gi_wp2_with (first | (refine ⟨trivial, ?_⟩; gi_at_call 25; refine (callsIn_wide.2 (identity_any ds.length wr hlen)).mono ?_; rintro e w1 ⟨rfl, hb1, hB1⟩) | (refine ⟨trivial, ?_⟩; gi_at_call 26; refine (backward_in Fence.wide _ trivial rfl _ _ _ _).mono ?_; rintro e w3 ⟨rfl, rfl⟩))
      obtain ⟨W0, hW0⟩ : ∃ W0, (w1.alloc (Obj.cells #[Value.slice (some ⟨wr.heap.size, 0, none⟩) ds.length ds.length] 22)).alloc (Obj.cells #[Value.slice A ds.length ca] 22) = W0 := ⟨_, rfl⟩
      have hsz : W0.heap.size = w1.heap.size + 1 + 1 := by rw [← hW0]; simp
      have hP : Boxed W0 w1.heap.size 22 (.slice (some ⟨wr.heap.size, 0, none⟩) ds.length ds.length) := by rw [← hW0]; exact (Boxed.new w1 _ _).alloc _
      have hBx : Boxed W0 (w1.heap.size + 1) 22 (.slice A ds.length ca) := by
        have := Boxed.new (w1.alloc (Obj.cells #[Value.slice (some ⟨wr.heap.size, 0, none⟩) ds.length ds.length] 22)) 22 (.slice A ds.length ca)
        rw [← hW0]; rwa [World.size_alloc] at this
      have hal : Below w1.heap.size w1 W0 := by rw [← hW0]; exact ((Below.refl _ w1).alloc (Nat.le_refl _) _).alloc (by simp) _
      have hb0 : Bs 3 W0 wr.heap.size (ivs (dls ds [])) := hb1.below hal hb1.lt
      have hB0 : Below wr.heap.size wr W0 := hB1.trans (hal.mono hB1.size)
      have hlt1 := hb1.lt
      rw [hW0]
      refine wpIn_rangeFunc_ownG rfl (by omega) (gf := 31) (lb := #[.pointer (some ⟨w1.heap.size + 1, 0, none⟩)]) rfl trivial (enters_of Try.func31 (by kernel_rfl) rfl)
        (encs := encB ds) (Kp := KB wr.heap.size (w1.heap.size + 1)) (S := fun ys => ys = downTo ds.length ds.length) (Sp := fun _ => True) (N := ds.length) (w0 := W0)
        (fun l J Jx W hW _ _ hY h0 => backward1_in Fence.wide _ trivial rfl (by omega) l (w1.heap.size + 1) wr.heap.size A ca ds hlen J Jx hY W ((hW.block _ (by omega)).trans hBx) ((HD.out.il.later hB0).later hW)
          (fun h0 b off e => by
            obtain ⟨b2, o2, e2, hl2, _⟩ := HD.out.il.at h0
            rw [e] at e2; cases e2; exact hl2) h0)
        KB_t (KB_b (by omega) (by omega)) (Below.refl _ _) (fun _ => rfl)
        (DRel wr w1.heap.size ds) (fun _ _ _ => False) (drel_own (by omega)) (fun _ _ _ _ _ hs _ _ => hs) ⟨⟨hP, hb0⟩, hB0⟩
        (fun x => { tmps := #[Value.slice A ds.length ca, undef, u2, u3, u4, u5, Value.pointer (some ⟨w1.heap.size, 0, none⟩), .int .i64 ((cl ds.length x : Nat) : Int), .int .i64 (ds.getD (cl ds.length x) 0), Value.slice A ds.length ca, Value.int IntKind.i64 ds.length, Value.bool false,
          Value.slice A ds.length ca, Value.int IntKind.i64 ds.length, Value.int IntKind.i64 ds.length,
          Value.bool false, u16, u17, u18, u19, u20, u21, u22, u23, u24, u25, u26, Value.slice A ds.length ca,
          Value.int IntKind.i64 ds.length, Value.slice (some ⟨wr.heap.size, 0, none⟩) ds.length ds.length,
          Value.slice A ds.length ca,
          Value.func (Fn.func 31) #[] #[Value.pointer (some ⟨w1.heap.size + 1, 0, none⟩)], .int .i64 ((cl ds.length x : Nat) : Int), .int .i64 (ds.getD (cl ds.length x) 0),
          undef, undef, undef, undef, undef, undef, undef, undef, undef, undef, undef, undef, undef, undef, undef], defers := [] }) ?assign ?body ?done ?stop
      case assign =>
        intro l x W K hK
        unfold encB
        gi_wp2
        exact hK
      case body =>
        rintro l pre x W ⟨⟨hbx, hbs⟩, hB⟩ hpl
        have hpos : 0 < ds.length := by omega
        have hkn := cl_in (j := x) hpos
        obtain ⟨e, hx, he⟩ := okD_at HK.out hkn
        have hen : e < ds.length := by omega
        have hl := dls_len ds pre
        have c1 := hbs.atI (i := cl ds.length x) (by omega)
        have c2 := hbs.atI (i := e) (by omega)
        have f1 := hbs.frozen (cl ds.length x)
        have f2 := hbs.frozen e
        have c0 := hbx.cell
        have ES : Hid (dls ds (pre ++ [x]) = ((dls ds pre).set (cl ds.length x) ((dls ds pre).getD e 0)).set e ((dls ds pre).getD (cl ds.length x) 0)) := by
          show _ = _
          rw [dls_snoc]; unfold stp; rw [hx]; rfl
        have HLn := Lib.hid hl
        have HBs := Lib.hid hbs
        have HBx := Lib.hid hbx
        have HB := Lib.hid hB
        rw [hx]
        clear hbs hbx hB hx hl
        generalize (dls ds pre).getD e 0 = ve at *
        generalize (dls ds pre).getD (cl ds.length x) 0 = vk at *
        generalize cl ds.length x = k at *
        have hQ : ¬ LetsOut (ownPostG W0.heap.size (KB wr.heap.size (w1.heap.size + 1)) (DRel wr w1.heap.size ds) (fun _ _ _ => False) (pre ++ [x]) W) := by rintro ⟨_, _, h⟩; exact h
        have i1 : (e : Int) < (ds.length : Int) := by omega
        have i2 : (k : Int) < (ds.length : Int) := by omega
        obtain ⟨W1, hW1⟩ : ∃ W1, W.drew.setCell ⟨wr.heap.size, k, none⟩ (.int .i64 ve) = W1 := ⟨_, rfl⟩
        obtain ⟨W2, hW2⟩ : ∃ W2, W1.setCell ⟨wr.heap.size, e, none⟩ (.int .i64 vk) = W2 := ⟨_, rfl⟩
        have hne : w1.heap.size ≠ wr.heap.size := by omega
        have hb1' : Bs 3 W1 wr.heap.size (ivs ((dls ds pre).set k ve)) := by rw [← hW1]; exact Bs.setI (w := W.drew) HBs.out k ve
        have hx1' : Boxed W1 w1.heap.size 22 (.slice (some ⟨wr.heap.size, 0, none⟩) ds.length ds.length) := by
          rw [← hW1]; exact (heap_setCell_other W.drew ⟨wr.heap.size, k, none⟩ w1.heap.size _ hne).trans HBx.out
        have hx2' : Boxed W2 w1.heap.size 22 (.slice (some ⟨wr.heap.size, 0, none⟩) ds.length ds.length) := by
          rw [← hW2]; exact (heap_setCell_other W1 ⟨wr.heap.size, e, none⟩ w1.heap.size _ hne).trans hx1'
        have hS1 := hx1'.cell
        have hS2 := hx2'.cell
        have d1 := hb1'.atI (i := e) (by rw [List.length_set, HLn.out]; exact hen)
        have d2 := hb1'.frozen e
        have FIN : Hid (KeepsFrom W0.heap.size W W2 ∧ KB wr.heap.size (w1.heap.size + 1) W W2 ∧ DRel wr w1.heap.size ds (pre ++ [x]) W2) := by
          have hbW : Below wr.heap.size W W2 := by rw [← hW2, ← hW1]; exact (((Below.refl _ W).drew).setCell (p := ⟨wr.heap.size, k, none⟩) (Nat.le_refl _) _).setCell (p := ⟨wr.heap.size, e, none⟩) (Nat.le_refl _) _
          refine ⟨?_, ⟨hbW, ?_⟩, ⟨hx2', ?_⟩, HB.out.trans hbW⟩
          · rw [← hW2, ← hW1]
            exact (((KeepsOthers.drew W).trans (KeepsOthers.setCell W.drew _ _)).trans (KeepsOthers.setCell _ _ _)).from _
          · rw [← hW2, heap_setCell_other W1 ⟨wr.heap.size, e, none⟩ _ _ (by show w1.heap.size + 1 ≠ wr.heap.size; omega), ← hW1, heap_setCell_other W.drew ⟨wr.heap.size, k, none⟩ _ _ (by show w1.heap.size + 1 ≠ wr.heap.size; omega)]
            rfl
          · rw [ES.out, ← hW2]; exact hb1'.setI e vk
        clear hb1' hx1' hx2' HBs HBx HB ES
        generalize ((dls ds pre).set k ve).getD e 0 = y at *
        gi_wp2
        refine wpIn_region_round (S := fun w' => w'.cell? ⟨w1.heap.size, 0, none⟩ = some (.slice (some ⟨wr.heap.size, 0, none⟩) ds.length ds.length)) (by kernel_rfl) (by rfl) hQ c0 (fun hHeld => ?_)
        refine takeH 0 (some 34) (.slice (some ⟨wr.heap.size, 0, none⟩) ds.length ds.length) rfl rfl (by kernel_rfl) (by kernel_rfl) (by kernel_rfl) (fun _ _ _ h => h) (Or.inl ⟨by rfl, ?_⟩) (by assumption) ?_
        · intro w' hSw; go_simp
        simp only [Act.put, List.setIfInBounds_toArray, List.set_cons_zero, List.set_cons_succ]
        refine takeH 1 (some 35) (.int .i64 (k : Int)) rfl rfl (by kernel_rfl) (by kernel_rfl) (by kernel_rfl) (fun _ _ _ h => h) (Or.inl ⟨by rfl, ?_⟩) (by assumption) ?_
        · intro w' hSw; go_simp
        simp only [Act.put, List.setIfInBounds_toArray, List.set_cons_zero, List.set_cons_succ]
        refine takeH 2 (some 36) (.slice (some ⟨wr.heap.size, 0, none⟩) ds.length ds.length) rfl rfl (by kernel_rfl) (by kernel_rfl) (by kernel_rfl) (fun _ _ _ h => h) (Or.inl ⟨by rfl, ?_⟩) (by assumption) ?_
        · intro w' hSw; go_simp
        simp only [Act.put, List.setIfInBounds_toArray, List.set_cons_zero, List.set_cons_succ]
        refine takeH 3 (some 37) (.int .i64 (e : Int)) rfl rfl (by kernel_rfl) (by kernel_rfl) (by kernel_rfl) (fun _ _ _ h => h) (Or.inl ⟨by rfl, ?_⟩) (by assumption) ?_
        · intro w' hSw; go_simp
        simp only [Act.put, List.setIfInBounds_toArray, List.set_cons_zero, List.set_cons_succ]
        refine takeH 4 (some 38) (.slice (some ⟨wr.heap.size, 0, none⟩) ds.length ds.length) rfl rfl (by kernel_rfl) (by kernel_rfl) (by kernel_rfl) (fun _ _ _ h => h) (Or.inl ⟨by rfl, ?_⟩) (by assumption) ?_
        · intro w' hSw; go_simp
        simp only [Act.put, List.setIfInBounds_toArray, List.set_cons_zero, List.set_cons_succ]
        refine takeH 5 (some 39) (.int .i64 (e : Int)) rfl rfl (by kernel_rfl) (by kernel_rfl) (by kernel_rfl) (fun _ _ _ h => h) (Or.inl ⟨by rfl, ?_⟩) (by assumption) ?_
        · intro w' hSw; go_simp
        simp only [Act.put, List.setIfInBounds_toArray, List.set_cons_zero, List.set_cons_succ]
        refine takeH 8 (some 42) (.slice (some ⟨wr.heap.size, 0, none⟩) ds.length ds.length) rfl rfl (by kernel_rfl) (by kernel_rfl) (by kernel_rfl) (fun _ _ _ h => h) (Or.inl ⟨by rfl, ?_⟩) (by assumption) ?_
        · intro w' hSw; go_simp
        simp only [Act.put, List.setIfInBounds_toArray, List.set_cons_zero, List.set_cons_succ]
        refine takeH 9 (some 43) (.int .i64 (k : Int)) rfl rfl (by kernel_rfl) (by kernel_rfl) (by kernel_rfl) (fun _ _ _ h => h) (Or.inl ⟨by rfl, ?_⟩) (by assumption) ?_
        · intro w' hSw; go_simp
        simp only [Act.put, List.setIfInBounds_toArray, List.set_cons_zero, List.set_cons_succ]
        refine takeH 6 (some 40) (.pointer (some ⟨wr.heap.size, e, none⟩)) rfl rfl (by kernel_rfl) (by kernel_rfl) (by kernel_rfl) (fun _ _ _ h => h) (Or.inl ⟨by rfl, ?_⟩) (by assumption) ?_
        · intro w' hSw; go_simp
        simp only [Act.put, List.setIfInBounds_toArray, List.set_cons_zero, List.set_cons_succ]
        refine takeH 10 (some 44) (.pointer (some ⟨wr.heap.size, k, none⟩)) rfl rfl (by kernel_rfl) (by kernel_rfl) (by kernel_rfl) (fun _ _ _ h => h) (Or.inl ⟨by rfl, ?_⟩) (by assumption) ?_
        · intro w' hSw; go_simp
        simp only [Act.put, List.setIfInBounds_toArray, List.set_cons_zero, List.set_cons_succ]
        refine exec2H 7 11 (some 41) (some 45) (.int .i64 ve) (.int .i64 vk) rfl rfl rfl rfl (by kernel_rfl) (by rfl) (by rfl) ?_ ?_ (by assumption) ?_ ?_
        · go_simp
        · go_simp
        · simp only [Act.put, List.setIfInBounds_toArray, List.set_cons_zero, List.set_cons_succ]
          refine execH 11 (some 45) (.int .i64 vk) W.drew rfl rfl (by kernel_rfl) (by rfl) ?_ (by assumption) (fun _ => ?_)
          · go_simp
          simp only [Act.put, List.setIfInBounds_toArray, List.set_cons_zero, List.set_cons_succ]
          refine takeH 12 (some 46) (.pointer (some ⟨wr.heap.size, k, none⟩)) rfl rfl (by kernel_rfl) (by kernel_rfl) (by kernel_rfl) (fun _ _ _ h => h) (Or.inl ⟨by rfl, ?_⟩) (by assumption) ?_
          · intro w' hSw; go_simp
          simp only [Act.put, List.setIfInBounds_toArray, List.set_cons_zero, List.set_cons_succ]
          refine execSH 13 none W1 rfl rfl (by kernel_rfl) (by rfl) ?_ hS1 (fun _ => ?_)
          · rw [← hW1]; go_simp
          simp only [Act.put, List.setIfInBounds_toArray, List.set_cons_zero, List.set_cons_succ]
          refine takeH 14 (some 47) (.pointer (some ⟨wr.heap.size, e, none⟩)) rfl rfl (by kernel_rfl) (by kernel_rfl) (by kernel_rfl) (fun _ _ _ h => h) (Or.inl ⟨by rfl, ?_⟩) (by assumption) ?_
          · intro w' hSw; go_simp
          simp only [Act.put, List.setIfInBounds_toArray, List.set_cons_zero, List.set_cons_succ]
          refine execSH 15 none W2 rfl rfl (by kernel_rfl) (by rfl) ?_ hS2 (fun _ => ?_)
          · rw [← hW2]; go_simp
          simp only [Act.put, List.setIfInBounds_toArray, List.set_cons_zero, List.set_cons_succ]
          exact wpAnyH_done (by kernel_rfl) FIN.out _
        · simp only [Act.put, List.setIfInBounds_toArray, List.set_cons_zero, List.set_cons_succ]
          refine execH 7 (some 41) (.int .i64 ve) W.drew rfl rfl (by kernel_rfl) (by rfl) ?_ (by assumption) (fun _ => ?_)
          · go_simp
          simp only [Act.put, List.setIfInBounds_toArray, List.set_cons_zero, List.set_cons_succ]
          refine takeH 12 (some 46) (.pointer (some ⟨wr.heap.size, k, none⟩)) rfl rfl (by kernel_rfl) (by kernel_rfl) (by kernel_rfl) (fun _ _ _ h => h) (Or.inl ⟨by rfl, ?_⟩) (by assumption) ?_
          · intro w' hSw; go_simp
          simp only [Act.put, List.setIfInBounds_toArray, List.set_cons_zero, List.set_cons_succ]
          refine execSH 13 none W1 rfl rfl (by kernel_rfl) (by rfl) ?_ hS1 (fun _ => ?_)
          · rw [← hW1]; go_simp
          simp only [Act.put, List.setIfInBounds_toArray, List.set_cons_zero, List.set_cons_succ]
          refine takeH 14 (some 47) (.pointer (some ⟨wr.heap.size, e, none⟩)) rfl rfl (by kernel_rfl) (by kernel_rfl) (by kernel_rfl) (fun _ _ _ h => h) (Or.inl ⟨by rfl, ?_⟩) (by assumption) ?_
          · intro w' hSw; go_simp
          simp only [Act.put, List.setIfInBounds_toArray, List.set_cons_zero, List.set_cons_succ]
          refine execSH 15 none W2 rfl rfl (by kernel_rfl) (by rfl) ?_ hS2 (fun _ => ?_)
          · rw [← hW2]; go_simp
          simp only [Act.put, List.setIfInBounds_toArray, List.set_cons_zero, List.set_cons_succ]
          exact wpAnyH_done (by kernel_rfl) FIN.out _
      case done =>
        rintro D ys W hD rfl ⟨⟨hbx, hbs⟩, hB⟩ hK
        have c0 := hbx.cell
        have hbs2 : Bs 3 (W.putObj D (.deferred none)) wr.heap.size (ivs (dealt ds)) := (World.putObj_heap_other (by omega)).trans hbs
        have hB2 : Below wr.heap.size wr (W.putObj D (.deferred none)) := hB.trans (belowK_b (w := wr) (Nat.le_refl _) W D _ _ (by omega) hK rfl rfl)
        have hlen2 : (dealt ds).length = ds.length := dls_len ds _
        clear hbs hbx hB
        gi_wp2
        refine ⟨by simp, .inl ⟨_, _, rfl, run_takeDeferred hK, ?_⟩⟩
        exact ⟨_, results_tmp2 rfl _ _ _, lpost_bs (by omega) hbs2 hB2 hlen2.symm hlen2.symm⟩
      case stop =>
        rintro D c pre W _ _ h _
        exact h.elim

theorem permDeal_any (A : Option Addr) (ca : Nat) (ds : List Int) (w : World) (hd : IP w A ca ds) :
    Calls Try.prog 9 #[.slice A ds.length ca] w (LPost w (dealR ds)) := by
  unfold dealR
  by_cases h : okD ds
  · rw [if_pos h]; exact permDeal_good A ca ds w hd h
  · rw [if_neg h]; exact permDeal_bad A ca ds w hd h
end Go.Proofs.Ytbchdnmpohnkiaa
