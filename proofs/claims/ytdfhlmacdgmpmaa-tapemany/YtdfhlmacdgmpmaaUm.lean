/- lotdrawerkeep.TapeMany: the walk. -/
import Derived.Test.YtdfhlmacdgmpmaaT9
import Derived.Test.YtdfhlmacdgmpmaaCcI
namespace Go.Proofs.Ytdfhlmacdgmpmaa
open Go.RowKit Go.Deep

theorem ivs_one (t : List Int) : ∀ u ∈ ivs t, u.oneCell' = true := by
  intro u hu
  obtain ⟨b, _, rfl⟩ := List.mem_map.1 hu
  rfl
theorem ip_nils {w : World} {A : Option Addr} {ca : Nat} {t : List Int} (h : IP w A ca t) : A = none → ivs t = [] := fun e => by
  have h1 := h.none e
  have h2 := h.le
  have : t = [] := List.eq_nil_of_length_eq_zero (by omega)
  rw [this]; rfl
theorem ip_of_post {w' : World} {l : List Int} {R : Option Addr} {cr : Nat} (h1 : Vs w' R (ivs l)) (h2 : (ivs l).length ≤ cr) (h3 : cr ≤ 9223372036854775807) (h4 : R = none → cr = 0) : IP w' R cr l :=
  ⟨h1, by rwa [ivs_len] at h2, h3, h4⟩
/-- Two lists of integers, laid beside one another and joined. -/
theorem concat_ints (A B : Option Addr) (ca cb : Nat) (a b : List Int) (w : World) (ha : IP w A ca a) (hb : IP w B cb b) (hs : (a.length + b.length) * 8 ≤ 281474976710656) :
    Calls Try.prog 18 #[.slice (some ⟨w.heap.size, 0, none⟩) 2 2] (w.alloc (.cells #[.slice A a.length ca, .slice B b.length cb] 23)) fun e w' => ∃ R cr, e = .returned (.slice R (a ++ b).length cr) ∧ IP w' R cr (a ++ b) ∧ Below w.heap.size w w' := by
  have hB2 : Below w.heap.size w (w.alloc (.cells #[.slice A a.length ca, .slice B b.length cb] 23)) := (Below.refl _ _).alloc (Nat.le_refl _) _
  have hBk : (w.alloc (.cells #[.slice A a.length ca, .slice B b.length cb] 23)).heap[w.heap.size]? = some (.cells #[.slice A a.length ca, .slice B b.length cb] 23 (0, 0)) := heap_alloc_new w _
  refine (concat_int w.heap.size A B ca cb (ivs a) (ivs b) _ (by simp) (by rw [ivs_len]; exact cell_of_row _ _ 0 _ _ _ hBk) (by rw [ivs_len]; exact cell_of_row _ _ 1 _ _ _ hBk) (ha.later hB2).il (hb.later hB2).il (ivs_one _) (ivs_one _) (ip_nils ha) (ip_nils hb) (by rw [ivs_len, ivs_len]; exact hs)).mono ?_
  rintro e w' ⟨R, cr, rfl, h1, h2, h3, h4, h5⟩
  rw [← ivs_append] at h1 h2 ⊢
  exact ⟨R, cr, by rw [ivs_len], ip_of_post h1 h2 h3 h4, hB2.trans (h5.mono hB2.size)⟩

theorem mny_len (t : List Bool) : ∀ ns, (mny t ns).1.length ≤ ns.length := by
  intro ns
  induction ns generalizing t with
  | nil => simp [mny]
  | cons n ns ih =>
    rw [mny]
    by_cases h1 : (bel t n).2.2 ≠ 0
    · simp [h1]
    · simp only [h1, if_false]
      by_cases h2 : (mny (t.drop (bel t n).2.1.toNat) ns).2.2 ≠ 0
      · simp [h2]
      · simp only [h2, if_false, List.length_cons]
        have := ih (t.drop (bel t n).2.1.toNat)
        omega
theorem many_split (t : List Bool) (a b : List Int) : ((mny t (a ++ b)).2.2 ≠ 0 ∧ (mny t (a ++ b)).1 = []) ∨
    ∃ (y z : List Int) (v x : Nat), mny t a = (y, (v : Int), 0) ∧ v ≤ t.length ∧ mny (t.drop v) b = (z, (x : Int), 0) ∧ v + x ≤ t.length ∧ mny t (a ++ b) = (y ++ z, (v : Int) + (x : Int), 0) ∧ y.length ≤ a.length ∧ z.length ≤ b.length := by
  by_cases h : (mny t (a ++ b)).2.2 ≠ 0
  · exact .inl ⟨h, (mny_err t _ h).1⟩
  · right
    rw [mny_append] at h ⊢
    by_cases h1 : (mny t a).2.2 ≠ 0
    · rw [if_pos h1] at h; exact absurd h1 h
    · rw [if_neg h1] at h ⊢
      obtain ⟨v, hv, hvl⟩ := mny_used t a
      rw [hv, Int.toNat_natCast] at h ⊢
      obtain ⟨x, hx, hxl⟩ := mny_used (t.drop v) b
      have hl1 := mny_len t a
      have hl2 := mny_len (t.drop v) b
      unfold comb at h ⊢
      by_cases h2 : (mny (t.drop v) b).2.2 ≠ 0
      · rw [if_pos h2] at h; exact absurd h2 h
      · rw [if_neg h2]
        simp only [ne_eq, Classical.not_not] at h1 h2
        refine ⟨(mny t a).1, (mny (t.drop v) b).1, v, x, ?_, hvl, ?_, by simp at hxl; omega, by rw [hx], hl1, hl2⟩
        · rw [← hv, ← h1]
        · rw [← hx, ← h2]

set_option maxRecDepth 100000 in
set_option maxHeartbeats 2000000 in
theorem tapeMany_walk (T A B : Option Addr) (ct ca cb : Nat) (t : List Bool) (a b : List Int) (w : World) (ht : TP w T ct t) (ha : IP w A ca a) (hb : IP w B cb b) (hc1 : ca * 8 ≤ 140737488351232) (hc2 : cb * 8 ≤ 140737488351232) :
    Calls Try.prog 7 #[.slice T t.length ct, .slice A a.length ca, .slice B b.length cb] w fun e w' => e = .returned (.bool true) ∧ Below w.heap.size w w' := by
  have CA := Lib.hid (alive2_any w)
  have hlt := ht.short
  have hl1 := ha.le
  have hl2 := hb.le
  have HT := Lib.hid ht
  have HA := Lib.hid ha
  have HB := Lib.hid hb
  clear ht ha hb
  go_enter Try.func7, Try.ntmps7
  go_wp2_with fail
  refine CA.out.mono ?_
  rintro e w1 ⟨rfl, hB1⟩
  clear CA
  have C1 := Lib.hid (concat_ints A B ca cb a b w1 (HA.out.later hB1) (HB.out.later hB1) (by omega))
  have HB1 := Lib.hid hB1
  clear hB1
  obtain ⟨ab, hab⟩ : ∃ ab, a ++ b = ab := ⟨_, rfl⟩
  have hal : ab.length * 8 ≤ 281474976710656 := by rw [← hab, List.length_append]; omega
  rw [hab] at C1
  have EM := Lib.hid (many_split t a b)
  rw [hab] at EM
  clear hab
  go_wp2_with fail
  refine C1.out.mono ?_
  rintro e w2 ⟨R2, c2, rfl, hI2, hB2⟩
  have HB2 : Hid (Below w.heap.size w w2) := HB1.out.trans (hB2.mono HB1.out.size)
  have C2 := Lib.hid (many_any T R2 ct c2 t ab w2 (HT.out.later HB2.out) hI2 hal)
  clear C1 hI2 hB2 HB1
  go_wp2_with fail
  refine C2.out.mono ?_
  rintro e w3 ⟨R3, c3, rfl, hI3, hB3⟩
  have HB3 : Hid (Below w.heap.size w w3) := HB2.out.trans (hB3.mono HB2.out.size)
  have C3 := Lib.hid (many_any T A ct ca t a w3 (HT.out.later HB3.out) (HA.out.later HB3.out) (by omega))
  have I3 := Lib.hid hI3
  clear C2 hI3 hB3 HB2
  rcases EM.out with ⟨he, hx⟩ | ⟨y, z, v, x, ea, hv, eb, hx, eab, hy, hz⟩
  · clear EM
    obtain ⟨⟨m1, m2, m3⟩, hm⟩ : ∃ m, mny t ab = m := ⟨_, rfl⟩
    rw [hm] at he hx ⊢
    simp only [] at he hx
    subst hx
    have he' : (m3 != 0) = true := by rw [bne_iff_ne]; exact he
    unfold mtup
    clear hm I3 he
    go_wp2_with fail
    refine C3.out.mono ?_
    rintro e w4 ⟨R4, c4, rfl, hI4, hB4⟩
    have HB4 : Hid (Below w.heap.size w w4) := HB3.out.trans (hB4.mono HB3.out.size)
    clear hI4 hB4 C3
    obtain ⟨⟨k1, k2, k3⟩, hm⟩ : ∃ m, mny t a = m := ⟨_, rfl⟩
    rw [hm]
    clear hm
    unfold mtup
    go_wp2
    go_ret
    exact ⟨rfl, HB4.out⟩
  · clear EM
    rw [ea] at C3
    rw [eab] at I3 ⊢
    have EB := Lib.hid eb
    obtain ⟨yz, hyz⟩ : ∃ yz, y ++ z = yz := ⟨_, rfl⟩
    have HYZ := Lib.hid hyz
    rw [hyz] at I3 ⊢
    clear ea eab eb hyz
    unfold mtup
    simp only [] at I3 ⊢
    go_wp2_with fail
    refine C3.out.mono ?_
    rintro e w4 ⟨R4, c4, rfl, hI4, hB4⟩
    clear C3
    have HB4 : Hid (Below w.heap.size w w4) := HB3.out.trans (hB4.mono HB3.out.size)
    have I3 := Lib.hid (I3.out.later hB4)
    have I4 := Lib.hid hI4
    obtain ⟨T', hT', hTP⟩ := tail_tp (HT.out.later HB4.out) hv
    have C5 := Lib.hid (many_any T' B (ct - v) cb (t.drop v) b w4 hTP (HB.out.later HB4.out) (by omega))
    rw [List.length_drop, EB.out] at C5
    clear hI4 hB4 hTP
    unfold mtup
    simp only [] at I4 ⊢
    go_wp2_with fail
    refine C5.out.mono ?_
    rintro e w5 ⟨R5, c5, rfl, hI5, hB5⟩
    clear C5
    have HB5 : Hid (Below w.heap.size w w5) := HB4.out.trans (hB5.mono HB4.out.size)
    have I3 := Lib.hid (I3.out.later hB5)
    have I4 := I4.out.later hB5
    have C6 := Lib.hid (concat_ints R4 R5 c4 c5 y z w5 I4 hI5 (by omega))
    rw [HYZ.out] at C6
    clear hI5 hB5 I4
    unfold mtup
    simp only []
    go_wp2_with fail
    refine C6.out.mono ?_
    rintro e w6 ⟨R6, c6, rfl, hI6, hB6⟩
    clear C6
    have HB6 : Hid (Below w.heap.size w w6) := HB5.out.trans (hB6.mono HB5.out.size)
    have I3 := I3.out.later hB6
    have C7 := Lib.hid (equal_any R3 R6 c3 c6 yz yz w6 I3.il hI6.il (Nat.le_trans I3.le I3.cap) (Nat.le_trans I3.le I3.cap))
    simp only [decide_true] at C7
    clear hI6 hB6 I3
    go_wp2_with fail
    refine C7.out.mono ?_
    rintro e w7 ⟨rfl, hB7⟩
    have HB7 : Hid (Below w.heap.size w w7) := HB6.out.trans (hB7.mono HB6.out.size)
    clear hB7 C7
    go_wp2
    go_ret
    exact ⟨rfl, HB7.out⟩
end Go.Proofs.Ytdfhlmacdgmpmaa
