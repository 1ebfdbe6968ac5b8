/- lotdrawerref.EAll. -/
import Derived.Test.YtjhcbjpbmbjgoaaGi
import Derived.Test.YtjhcbjpbmbjgoaaXe
namespace Go.Proofs.Ytjhcbjpbmbjgoaa
open Go.RowKit Go.Deep

def EAllC (K : Nat) : Prop := ∀ (N : Nat) (w : World), N ≤ 9 → Calls Try.prog 10 #[.int .i64 N, .int .i64 K] w fun e w' => ∃ v, e = .returned v ∧ OG w' w.heap.size v (eall K N) ∧ Below w.heap.size w w'

theorem og_base (w : World) : OG ((w.alloc (.cells #[] 3)).alloc (.cells #[.slice (some ⟨w.heap.size, 0, none⟩) 0 0] 26)) w.heap.size (.slice (some ⟨w.heap.size + 1, 0, none⟩) 1 1) [[]] := by
  refine ⟨[.slice (some ⟨w.heap.size, 0, none⟩) 0 0], rfl, ⟨rfl, .inr ⟨w.heap.size + 1, 1, #[.slice (some ⟨w.heap.size, 0, none⟩) 0 0], rfl, by omega, ?_, by simp, by unfold maxLen; simp, rfl, rfl⟩⟩, ?_⟩
  · have := heap_alloc_new (w.alloc (.cells #[] 3)) (.cells #[.slice (some ⟨w.heap.size, 0, none⟩) 0 0] 26)
    simpa using this
  · intro i hi
    have hi2 : i = 0 := by simpa using hi
    subst hi2
    refine ⟨?_, by simp⟩
    exact World.ownsRow.alloc (World.ownsRow_made w #[] 0 (Nat.le_refl _) (Nat.zero_le _) rfl) _

theorem eallC_zero : EAllC 0 := by
  intro N w hN
  rw [eall_zero]
  have HO := Lib.hid (og_base w)
  have HB : Hid (Below w.heap.size w ((w.alloc (.cells #[] 3)).alloc (.cells #[.slice (some ⟨w.heap.size, 0, none⟩) 0 0] 26))) := ((Below.refl _ _).alloc (Nat.le_refl _) _).alloc (by simp) _
  go_enter Try.func10, Try.ntmps10
  go_wp2
  go_ret
  exact ⟨_, rfl, HO.out, HB.out⟩

/-- What is there after i rows of the inner loop. -/
def eTo (K t i : Nat) : List (List Nat) := eall (K + 1) t ++ ((eall K t).take i).map (· ++ [t])
theorem eTo_zero (K t : Nat) : eTo K t 0 = eall (K + 1) t := by simp [eTo]
theorem eTo_end {K t i : Nat} (h : i = (eall K t).length) : eTo K t i = eall (K + 1) (t + 1) := by rw [h]; simp [eTo, eall_succ]
theorem eTo_step {K t i : Nat} (h : i < (eall K t).length) : eTo K t i ++ [(eall K t).getD i [] ++ [t]] = eTo K t (i + 1) := by
  unfold eTo
  rw [List.take_succ_eq_append_getElem h, List.map_append, List.append_assoc]
  simp [List.getD_eq_getElem?_getD, h]
theorem eTo_len {K t i : Nat} (h : t ≤ 9) : (eTo K t i).length ≤ 252 := by
  unfold eTo
  rw [List.length_append, List.length_map, List.length_take, eall_len, eall_len]
  have h1 := bc_few h (K + 1)
  have h2 := bc_few h K
  omega
/-- What stands in the inner loop. -/
structure ERel (w wb : World) (lo hi : Nat) (K t i : Nat) (v : Value) (wr : World) : Prop where
  og : OG wr w.heap.size v (eTo K t i)
  bel : Below w.heap.size w wr
  le : hi ≤ wr.heap.size
  mid : ∀ g, lo ≤ g → g < hi → wr.heap[g]? = wb.heap[g]?
  own : ∀ g, v.ownBlock = some g → g < lo ∨ hi ≤ g

set_option maxRecDepth 100000 in
set_option maxHeartbeats 1000000 in
theorem eallC_step (K : Nat) (hK : K ≤ 9) (ih : EAllC K) : EAllC (K + 1) := by
  intro N w hN
  have HIH := Lib.hid ih
  obtain ⟨k, hk⟩ : ∃ k, K + 1 = k := ⟨_, rfl⟩
  rw [hk]
  have HK := Lib.hid hk
  have e1 : (k : Int) - 1 = (K : Int) := by omega
  have e2 : ((k : Int) == 0) = false := eqz_no (by omega)
  have hk2 : k ≤ 10 := by omega
  have HO := Lib.hid (OG.nil w w.heap.size)
  have H0 : Hid (eall k K = []) := eall_few (by omega)
  clear ih hk
  go_enter Try.func10, Try.ntmps10
  go_wp2_with fail
  go_loopw [5, 6] (fun ov tv wr => ∃ t : Nat, K ≤ t ∧ (t ≤ N ∨ t = K) ∧ tv = .int .i64 t ∧ OG wr w.heap.size ov (eall k t) ∧ Below w.heap.size w wr) (fun _ tv _ => N - (intOf tv).toNat)
  case atStart => exact ⟨K, Nat.le_refl _, .inr rfl, rfl, by rw [H0.out]; exact HO.out, Below.refl _ _⟩
  case round =>
    clear HO
    obtain ⟨t, hKt, htN, rfl, hO, hB⟩ := hrel
    have HO := Lib.hid hO
    have HB := Lib.hid hB
    clear hO hB
    by_cases hlt : t < N
    · obtain ⟨wa, hwa⟩ : ∃ wa, wa = wr := ⟨_, rfl⟩
      subst hwa
      have C := Lib.hid (HIH.out t wa (by omega))
      have hOb : ∀ g, u5.ownBlock = some g → g < wa.heap.size := fun g hg => (HO.out.block hg).2
      have HOB := Lib.hid hOb
      clear hOb
      go_wp2_with fail
      refine C.out.mono ?_
      rintro e wb ⟨v3, rfl, hO3, hB3⟩
      have hel := eall_len t K
      have hpos : 0 < (eall K t).length := by rw [hel]; exact bc_pos hKt
      have hfew : (eall K t).length ≤ 126 := by rw [hel]; exact bc_few (by omega) K
      obtain ⟨g3, cap3, rfl, hc3, hc4, _⟩ := hO3.at hpos
      have HO3 := Lib.hid hO3
      obtain ⟨L, hL⟩ : ∃ L, (eall K t).length = L := ⟨_, rfl⟩
      have HS : Hid (ERel w wb wa.heap.size wb.heap.size K t 0 u5 wb) := ⟨by rw [eTo_zero, HK.out]; exact HO.out.later hB3, HB.out.trans (hB3.mono HB.out.size), Nat.le_refl _, fun g _ _ => rfl, fun g hg => .inl (HOB.out g hg)⟩
      rw [hL] at hpos hfew hc4 HO3 ⊢
      have HL := Lib.hid hL
      clear C hO3 hB3 hel hL HO HB HOB
      go_wp2_with fail
      go_loopw [5, 25] (fun ov iv wr => ∃ i : Nat, i ≤ L ∧ iv = .int .i64 i ∧ ERel w wb wa.heap.size wb.heap.size K t i ov wr) (fun _ iv _ => L - (intOf iv).toNat)
      case atStart => exact ⟨0, by omega, rfl, HS.out⟩
      case round =>
        clear HS
        obtain ⟨i, hi, rfl, hR⟩ := hrel
        have HR := Lib.hid hR
        clear hR
        by_cases hl : i < L
        · have hO4 : OG wr wa.heap.size (.slice (some ⟨g3, 0, none⟩) L cap3) (eall K t) := HO3.out.keep fun g h1 h2 => HR.out.mid g h1 h2
          obtain ⟨b, c, hcell, hI, _⟩ := hO4.row (i := i) (by rw [HL.out]; exact hl)
          have HI := Lib.hid hI
          have HT := Lib.hid (eTo_step (K := K) (t := t) (i := i) (by rw [HL.out]; exact hl))
          have hle := hI.le
          have hcap := hI.cap
          have hl3 : ((eall K t).getD i []).length ≤ 9 := by
            have hib : i < bc t K := by rw [← eall_len, HL.out]; exact hl
            rw [eall_at t K hib, atC_len t hib]; omega
          generalize (eall K t).getD i [] = l at *
          have hll : (ints l).length < 17592186044416 := by rw [ints_len]; omega
          clear hI hO4 hle
          go_wp2_with (at_builtin; refine wpList_copyI rfl _ _ rfl b 0 l.length c (ints l) (ints_len l) rfl rfl HI.out.il hll ?_)
          intro v5 w5 hO5 hne5 hB5
          have HO5 := Lib.hid hO5
          have HN5 := Lib.hid hne5
          have HB5 := Lib.hid hB5
          clear hO5 hne5 hB5
          go_wp2_with (at_builtin; refine wpList_push rfl _ _ rfl wr.heap.size v5 (ints l) (t : Int) rfl HO5.out rfl hll HB5.out.size HB5.out ?_)
          intro g6 cap6 w6 hO6 hB6 _
          rw [ints_snoc] at hO6
          have hrow : RowI w6 w.heap.size (.slice (some ⟨g6, 0, none⟩) ((ints l).length + 1) cap6) (l ++ [t]) := ⟨hO6.lower HR.out.bel.size, by simp⟩
          have HRow := Lib.hid hrow
          have HB6 := Lib.hid hB6
          have HOG := Lib.hid (HR.out.og.later hB6)
          have HBw := Lib.hid (HR.out.bel.trans (hB6.mono HR.out.bel.size))
          have hlen6 : (eTo K t i).length < 1000000 := by have := eTo_len (K := K) (i := i) (show t ≤ 9 by omega); omega
          clear hO6 hB6 hrow HO5 HN5 HB5
          go_wp2_with (at_builtin; refine wpList_pushG rfl _ _ rfl w.heap.size u5 (.slice (some ⟨g6, 0, none⟩) ((ints l).length + 1) cap6) (eTo K t i) (l ++ [t]) rfl HOG.out HRow.out rfl hlen6 HBw.out.size HBw.out ?_)
          intro g7 cap7 w7 hO7 hB7 hs7 hk7 ho7
          rw [HT.out] at hO7
          have HR7 : Hid (ERel w wb wa.heap.size wb.heap.size K t (i + 1) (.slice (some ⟨g7, 0, none⟩) ((eTo K t i).length + 1) cap7) w7) := by
            have hsz6 := HB6.out.size
            have hle := HR.out.le
            refine ⟨hO7, hB7, by omega, fun g h1 h2 => ?_, fun g hg => ?_⟩
            · rw [hk7 g (by omega) (fun e => by have := HR.out.own g e.symm; omega), HB6.out.block g (by omega)]
              exact HR.out.mid g h1 h2
            · simp only [Value.ownBlock, Option.some.injEq] at hg
              subst hg
              rcases ho7 with h | h
              · exact HR.out.own _ h
              · right; omega
          clear hO7 hB7 hs7 hk7 ho7 HOG HBw HB6 HRow HT hlen6
          go_wp2
          go_roundw
          case rel => exact ⟨i + 1, by omega, by go_num, HR7.out⟩
          case measure => simp [intOf]; omega
        · obtain rfl : L = i := by omega
          have HG := Lib.hid HR.out.og
          rw [eTo_end HL.out.symm, HK.out] at HG
          have HB := Lib.hid HR.out.bel
          clear HR
          go_wp2
          go_roundw
          case rel => exact ⟨t + 1, by omega, .inl (by omega), by go_num, HG.out, HB.out⟩
          case measure => simp [intOf]; omega
    · have E : Hid (eall k t = eall k N) := by
        show _ = _
        rcases htN with h | h
        · have : t = N := by omega
          rw [this]
        · rw [h, H0.out, eall_few (by have := HK.out; omega)]
      rw [E.out] at HO
      go_wp2
      go_ret
      exact ⟨_, rfl, HO.out, HB.out⟩
theorem eallC_all : ∀ K, K ≤ 10 → EAllC K
  | 0, _ => eallC_zero
  | K + 1, h => eallC_step K (by omega) (eallC_all K (by omega))
end Go.Proofs.Ytjhcbjpbmbjgoaa
