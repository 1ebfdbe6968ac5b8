/- lotdrawerkeep.TapeUsed: the walk. -/
import Derived.Test.YtdfhlmacdgmpmaaT9
import Derived.Test.YtdfhlmacdgmpmaaCcB
namespace Go.Proofs.Ytdfhlmacdgmpmaa
open Go.RowKit Go.Deep

theorem bvs_one (t : List Bool) : ∀ u ∈ bvs t, u.oneCell' = true := by
  intro u hu
  obtain ⟨b, _, rfl⟩ := List.mem_map.1 hu
  rfl
theorem tp_nils {w : World} {A : Option Addr} {ca : Nat} {t : List Bool} (h : TP w A ca t) : A = none → bvs t = [] := fun e => by
  have h1 := h.none e
  have h2 := h.le
  have : t = [] := List.eq_nil_of_length_eq_zero (by omega)
  rw [this]; rfl

set_option maxRecDepth 100000 in
set_option maxHeartbeats 2000000 in
theorem tapeUsed_walk (A B : Option Addr) (ca cb : Nat) (t m : List Bool) (n : Int) (w : World) (ht : TP w A ca t) (hm : TP w B cb m) (hc1 : ca ≤ 140737488351232) (hc2 : cb ≤ 140737488351232) :
    Calls Try.prog 5 #[.slice A t.length ca, .int .i64 n, .slice B m.length cb] w fun e w' => e = .returned (.bool true) ∧ Below w.heap.size w w' := by
  have CA := Lib.hid (alive2_any w)
  have hlt := ht.short
  have HT := Lib.hid ht
  have HM := Lib.hid hm
  clear ht hm
  go_enter Try.func5, Try.ntmps5
  go_wp2_with fail
  refine CA.out.mono ?_
  rintro e w1 ⟨rfl, hB1⟩
  clear CA
  have C1 := Lib.hid (below_any A ca t n w1 (HT.out.later hB1))
  have HB1 := Lib.hid hB1
  clear hB1
  unfold tup at C1
  rcases bel_cases t n with ⟨c, hc, hbe⟩ | ⟨x, u, hbe, hx, hu, hall⟩
  · rw [hbe] at C1
    clear hbe
    rcases hc with rfl | rfl
    all_goals
      go_wp2_with fail
      refine C1.out.mono ?_
      rintro e w2 ⟨rfl, rfl⟩
      go_wp2
      go_ret
      exact ⟨rfl, HB1.out⟩
  · rw [hbe] at C1
    have HA := Lib.hid hall
    clear hbe hall
    have hle := HT.out.le
    have huc : u ≤ ca := by omega
    have hB2 : Below w1.heap.size w1 (w1.alloc (.cells #[.slice A u ca, .slice B m.length cb] 22)) := (Below.refl _ _).alloc (Nat.le_refl _) _
    have hBk : (w1.alloc (.cells #[.slice A u ca, .slice B m.length cb] 22)).heap[w1.heap.size]? = some (.cells #[.slice A u ca, .slice B m.length cb] 22 (0, 0)) := heap_alloc_new w1 _
    have eu : (t.take u).length = u := by simp; omega
    have T1 : TP w1 A ca (t.take u) := ⟨(HT.out.later HB1.out).tp.take u, by omega, HT.out.cap, by omega, HT.out.none⟩
    have M1 := HM.out.later HB1.out
    have C2 := Lib.hid (concat_bool w1.heap.size A B ca cb (bvs (t.take u)) (bvs m) _ (by simp) (by rw [bvs_len, eu]; exact cell_of_row _ _ 0 _ _ _ hBk) (by rw [bvs_len]; exact cell_of_row _ _ 1 _ _ _ hBk) (T1.later hB2).tp (M1.later hB2).tp (bvs_one _) (bvs_one _) (tp_nils T1) (tp_nils M1) (by rw [bvs_len, bvs_len]; have := M1.le; omega))
    have HB2 : Hid (Below w.heap.size w (w1.alloc (.cells #[.slice A u ca, .slice B m.length cb] 22))) := HB1.out.trans (hB2.mono HB1.out.size)
    have hsh : Hid ((t.take u ++ m).length ≤ 4611686018427387904) := by
      show (t.take u ++ m).length ≤ 4611686018427387904
      have := M1.le
      rw [List.length_append, eu]; omega
    rw [← bvs_append] at C2
    clear hB2 hBk eu T1 M1 hle
    go_wp2_with fail
    refine C1.out.mono ?_
    rintro e w2 ⟨rfl, rfl⟩
    clear C1
    go_wp2_with fail
    refine C2.out.mono ?_
    rintro e w3 ⟨R, cr, rfl, hv, hl1, hl2, hn, hB3⟩
    rw [bvs_len] at hl1
    rw [bvs_len]
    have C3 := Lib.hid (below_any R cr (t.take u ++ m) n w3 ⟨hv, hl1, hl2, hsh.out, hn⟩)
    rw [HA.out m] at C3
    unfold tup at C3
    have HB3 : Hid (Below w.heap.size w w3) := HB2.out.trans (hB3.mono HB2.out.size)
    clear hv hl1 hl2 hn hB3 C2 HB2
    generalize (t.take u ++ m).length = len at *
    go_wp2_with fail
    refine C3.out.mono ?_
    rintro e w4 ⟨rfl, rfl⟩
    go_wp2
    go_ret
    exact ⟨rfl, HB3.out⟩
end Go.Proofs.Ytdfhlmacdgmpmaa
