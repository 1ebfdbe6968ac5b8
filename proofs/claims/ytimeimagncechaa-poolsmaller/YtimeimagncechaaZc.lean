/- pool.own, put. -/
import Derived.Test.YtimeimagncechaaZb
import Derived.Test.YtimeimagncechaaCi
namespace Go.Proofs.Ytimeimagncechaa
open Go.RowKit Go.Deep

/-- slices.Clone where it may be nil or empty. -/
theorem clone_any (A : Option Addr) (ca : Nat) (l : List Int) (w : World) (hl : IP w A ca l) (hb : l.length < 17592186044416) :
    Calls Try.prog 26 #[.slice A l.length ca] w fun e w' => ∃ v, e = .returned v ∧ OI w' w.heap.size v l ∧ Below w.heap.size w w' := by
  by_cases h0 : 0 < l.length
  · exact cloneO_any A ca l w hl h0 hb
  · obtain rfl : l = [] := List.eq_nil_of_length_eq_zero (by omega)
    have q22 : ∀ (w : World) (a : Option Addr) (n c n' c' : Nat), (binOp .eql 22 (.slice a n c) (.slice none n' c')).run Try.prog w = .ok (.bool a.isNone) w := fun w a n c n' c' => Lib.run_eql_slice_nil w _ _ a n c n' c' Try.underlying22
    obtain ⟨i0, hi0, hz0, hz1, hz2⟩ := info_parts info_int
    clear h0 hb
    cases A with
    | none =>
      obtain rfl : ca = 0 := hl.none rfl
      clear hl
      go_enter Try.func26, Try.ntmps26
      go_wp2
      go_ret
      exact ⟨_, rfl, OI.nil _ _, Below.refl _ _⟩
    | some a =>
      clear hl
      go_enter Try.func26, Try.ntmps26
      go_wp2_with (at_builtin; refine wpList_append_own _ rfl _ _ 22 rfl w.heap.size 3 i0 (.int .i64 0) 1 8 Try.underlying22 hi0 hz0 hz1 hz2 rfl (by decide) _ _ _ rfl (World.ownsRow_made w #[] 0 (Nat.le_refl _) (Nat.zero_le _) rfl) a 0 ca [] rfl ?qc1 ?qc2 ?qc3 ?qc4 ?qc5 ?qc6 ?_)
      case qc1 => simp
      case qc2 => intro j u hj; simp at hj
      case qc3 => intro u hu; simp at hu
      case qc4 => unfold maxLen; omega
      case qc5 => omega
      case qc6 => simp
      intro v' w1 hown hgrow hnil
      go_wp2
      go_ret
      have hB : Below w.heap.size w w1 := ((Below.refl _ w).alloc (Nat.le_refl _) _).grown hgrow (by simp) (by intro k hk; simp [Value.ownBlock] at hk; omega)
      refine ⟨_, rfl, ?_, hB⟩
      unfold OI
      simpa [ivs] using hown

set_option maxHeartbeats 2000000 in
theorem own_any (r c : Int) (A : Option Addr) (ca : Nat) (xs : List Int) (w : World) (hx : IP w A ca xs) (hl : xs.length ≤ 1000) :
    Calls Try.prog 31 #[pv r c (.slice A xs.length ca)] w fun e w' => ∃ v, e = .returned (pv r c v) ∧ OI w' w.heap.size v xs ∧ Below w.heap.size w w' := by
  have HB : Hid (Below w.heap.size w ((w.alloc (.cells #[.int .i64 r, .int .i64 c, .slice A xs.length ca] 24)).alloc (.cells #[.int .i64 0, .int .i64 0, .slice none 0 0] 24))) := ((Below.refl _ _).alloc (Nat.le_refl _) _).alloc (by simp) _
  have C := Lib.hid (clone_any A ca xs _ (hx.later HB.out) (by omega))
  have HP : Hid (PB ((w.alloc (.cells #[.int .i64 r, .int .i64 c, .slice A xs.length ca] 24)).alloc (.cells #[.int .i64 0, .int .i64 0, .slice none 0 0] 24)) w.heap.size r c (.slice A xs.length ca)) := heap_alloc2_old w _ _
  have HQ : Hid (PB ((w.alloc (.cells #[.int .i64 r, .int .i64 c, .slice A xs.length ca] 24)).alloc (.cells #[.int .i64 0, .int .i64 0, .slice none 0 0] 24)) (w.heap.size + 1) 0 0 (.slice none 0 0)) := heap_alloc2_new w _ _
  unfold pv
  clear hx
  go_enter Try.func31, Try.ntmps31
  go_wp2_with fail
  refine C.out.mono ?_
  rintro e w1 ⟨v, rfl, hO, hB1⟩
  obtain ⟨R, cr, rfl⟩ := hO.shape
  have hP := HP.out.later hB1
  have hQ := HQ.out.later hB1
  obtain ⟨c0, c1, c2, f0, f1, f2⟩ := hP.at
  obtain ⟨d0, d1, d2, g0, g1, g2⟩ := hQ.at
  have HP1 := Lib.hid hP
  have HQ1 := Lib.hid hQ
  have HO1 := Lib.hid hO
  have HB1 : Hid (Below w.heap.size w w1) := HB.out.trans (hB1.mono HB.out.size)
  clear hB1 HB HP HQ hO C hP hQ
  go_wp2
  have hP2 := HP1.out.set2 (.slice R xs.length cr)
  have hQ2 := HQ1.out.other (a := ⟨w.heap.size, 2, none⟩) (by simp) (.slice R xs.length cr)
  refine ret_pool1 rfl rfl (hQ2.store r c (.slice R xs.length cr)) rfl ⟨_, rfl, ?_, ?_⟩
  · exact ((HO1.out.lower (by simp; omega)).other HP1.out _).store hQ2 r c _
  · exact below_store (HB1.out.setCell (p := ⟨w.heap.size, 2, none⟩) (Nat.le_refl _) _) (by omega) _ _ _

set_option maxHeartbeats 2000000 in
theorem put_any (r c : Int) (v : Value) (xs : List Int) (x d : Int) (B : Nat) (w : World) (hB : B ≤ w.heap.size) (hx : OI w B v xs) (hp : PR r c xs) :
    Calls Try.prog 30 #[pv r c v, .int .i64 x, .int .i64 d] w (PPost B w (putR r c xs x d)) := by
  have HB : Hid (Below B w ((w.alloc (.cells #[.int .i64 r, .int .i64 c, v] 24)).alloc (.cells #[.int .i64 0, .int .i64 0, .slice none 0 0] 24))) := ((Below.refl _ _).alloc hB _).alloc (by simp; omega) _
  have hlen := pr_len hp
  obtain ⟨R, cr, rfl⟩ := hx.shape
  unfold pv
  by_cases h1 : c = 1099511627776
  · have E := Lib.hid (putR_full (r := r) (xs := xs) (x := x) (d := d) h1)
    clear hx hp
    subst h1
    go_enter Try.func30, Try.ntmps30
    go_wp2
    refine ret_pool rfl rfl rfl (PB.new2 _ _ _ _ _) rfl ?_
    rw [E.out]
    exact ppost_none (((Below.refl _ _).alloc hB _).alloc (by simp; omega) _)
  · by_cases h2 : d < 0
    · have E := Lib.hid (putR_bad (r := r) (xs := xs) (x := x) h1 (.inl h2))
      have t1 : (c == 1099511627776) = false := by rw [beq_eq_false_iff_ne]; exact h1
      clear hx hp h1
      go_enter Try.func30, Try.ntmps30
      go_wp2
      refine ret_pool rfl rfl rfl (PB.new2 _ _ _ _ _) rfl ?_
      rw [E.out]
      exact ppost_none (((Below.refl _ _).alloc hB _).alloc (by simp; omega) _)
    · by_cases h3 : c < d
      · have E := Lib.hid (putR_bad (r := r) (xs := xs) (x := x) h1 (.inr h3))
        have t1 : (c == 1099511627776) = false := by rw [beq_eq_false_iff_ne]; exact h1
        clear hx hp h1
        go_enter Try.func30, Try.ntmps30
        go_wp2
        refine ret_pool rfl rfl rfl (PB.new2 _ _ _ _ _) rfl ?_
        rw [E.out]
        exact ppost_none (((Below.refl _ _).alloc hB _).alloc (by simp; omega) _)
      · have E := Lib.hid (putR_ok (r := r) (xs := xs) (x := x) h1 (Int.not_lt.1 h2) (Int.not_lt.1 h3))
        have t1 : (c == 1099511627776) = false := by rw [beq_eq_false_iff_ne]; exact h1
        obtain ⟨⟨p1, p2⟩, p3, p4, p5⟩ := hp
        clear p5
        by_cases h4 : (xs.length : Int) < r
        · have E2 := Lib.hid (nx_room (x := x) (d := d) h4)
          have HO := Lib.hid hx
          clear hx
          go_enter Try.func30, Try.ntmps30
          go_wp2_with (at_builtin; go_loud (refine wpList_push rfl _ _ rfl B (.slice R xs.length cr) xs x rfl ((HO.out.alloc _).alloc _) (by simp [Act.eval, Act.put]) (by omega) (by simp; omega) (((Below.refl _ w).alloc hB _).alloc (by simp; omega) _) ?_))
          intro g cap w2 ho2 hB2 hgr
          have hP := PB.grown ((((PB.new w r (c + 1) (.slice R xs.length cr)).alloc (.cells #[.int .i64 0, .int .i64 0, .slice none 0 0] 24)).alloc (.cells #[.int .i64 x] 3))) hgr (by
            intro e
            have := (HO.out.alloc (.cells #[.int .i64 r, .int .i64 (c + 1), .slice R xs.length cr] 24)).pool (PB.new w r (c + 1) (.slice R xs.length cr))
            exact this e)
          have hQ := PB.grown ((PB.new (w.alloc (.cells #[.int .i64 r, .int .i64 (c + 1), .slice R xs.length cr] 24)) 0 0 (.slice none 0 0)).alloc (.cells #[.int .i64 x] 3)) hgr (by
            intro e
            have := ((HO.out.alloc (.cells #[.int .i64 r, .int .i64 (c + 1), .slice R xs.length cr] 24)).alloc (.cells #[.int .i64 0, .int .i64 0, .slice none 0 0] 24)).pool (PB.new _ 0 0 (.slice none 0 0))
            exact this e)
          rw [show (w.alloc (.cells #[.int .i64 r, .int .i64 (c + 1), .slice R xs.length cr] 24)).heap.size = w.heap.size + 1 by simp] at hQ
          obtain ⟨c0, c1, c2, f0, f1, f2⟩ := hP.at
          obtain ⟨d0, d1, d2, g0, g1, g2⟩ := hQ.at
          have HP := Lib.hid hP
          have HQ := Lib.hid hQ
          have HO2 := Lib.hid ho2
          have HB2 := Lib.hid hB2
          clear hP hQ ho2 hB2 hgr HO
          go_wp2
          have hP2 := HP.out.set2 (.slice (some ⟨g, 0, none⟩) (xs.length + 1) cap)
          have hQ2 := HQ.out.other (a := ⟨w.heap.size, 2, none⟩) (by simp) (.slice (some ⟨g, 0, none⟩) (xs.length + 1) cap)
          refine ret_pool rfl rfl rfl (hQ2.store r (c + 1) (.slice (some ⟨g, 0, none⟩) (xs.length + 1) cap)) rfl ?_
          rw [E.out, E2.out]
          refine ⟨_, rfl, (HO2.out.other HP.out _).store hQ2 r (c + 1) _, ?_⟩
          exact below_store (HB2.out.setCell (p := ⟨w.heap.size, 2, none⟩) hB _) (by omega) _ _ _
        · by_cases h5 : d < r
          · have E2 := Lib.hid (nx_set (x := x) h4 h5)
            obtain ⟨e, rfl⟩ : ∃ e : Nat, d = e := ⟨d.toNat, by omega⟩
            obtain ⟨g, cap, hv, hgB, hgl, hgc, hgm, hcell, hfz, ho2⟩ := hx.form rfl (by omega)
            cases hv
            have ce := hcell e (by omega)
            have fe := hfz e
            have HO := Lib.hid ho2
            clear hx hcell hfz ho2
            go_enter Try.func30, Try.ntmps30
            go_wp2
            refine ret_pool rfl rfl rfl (PB.new2s _ _ _ _ _ _ _) rfl ?_
            rw [E.out, E2.out, Int.toNat_natCast]
            refine ⟨_, rfl, ((HO.out.set e x).alloc _).alloc _, ?_⟩
            exact ((((Below.refl _ _).setCell (p := ⟨g, e, none⟩) hgB _).alloc (by simp; omega) _).alloc (by simp; omega) _)
          · have E2 := Lib.hid (nx_stay (x := x) h4 h5)
            have HO := Lib.hid hx
            clear hx
            go_enter Try.func30, Try.ntmps30
            go_wp2
            refine ret_pool rfl rfl rfl (PB.new2 _ _ _ _ _) rfl ?_
            rw [E.out, E2.out]
            exact ⟨_, rfl, (HO.out.alloc _).alloc _, ((Below.refl _ _).alloc hB _).alloc (by simp; omega) _⟩
end Go.Proofs.Ytimeimagncechaa
