/- lotdrawerkeep.QuantFew, out of contracts. -/
import Derived.Test.YtimcbeblmicioaaQw1
import Derived.Test.YtimcbeblmicioaaCq
import Derived.Test.YtimcbeblmicioaaSq
import Derived.Test.YtimcbeblmicioaaT5
namespace Go.Proofs.Ytimcbeblmicioaa
open Go.RowKit Go.Deep Go.Sort Go.Shelf Go.Lib

theorem ivalues_any (a : Option Addr) (len cap : Nat) (w : World) :
    Calls Try.prog 20 #[.slice a len cap] w fun e w' => e = .returned (.func (.func 36) #[] #[.pointer (some ⟨w.heap.size, 0, none⟩)]) ∧ w' = w.alloc (.cells #[.slice a len cap] 23) :=
  (callsIn_wide (n := 4)).1 (values_in Fence.wide 4 trivial rfl a len cap w)
theorem map_take {S : List Rk} {k : Nat} (h : k < S.length) : (S.take (k + 1)).map Rk.n = (S.take k).map Rk.n ++ [(rat S k).n] := by
  rw [rat_take h, List.map_append]; rfl

set_option maxRecDepth 100000 in
set_option maxHeartbeats 4000000 in
theorem quantFew_walk (KF : CtFind) (KL : CtAll) (KR : CtRight) (KC : CtCount) (p : Int) (X : Option Addr) (cx : Nat) (xs : List Int) (w : World) (hX : IP w X cx xs) :
    Calls Try.prog 7 #[.int .i64 p, .slice X xs.length cx] w fun e w' => e = .returned (.bool true) ∧ Below w.heap.size w w' := by
  have CA := Lib.hid (alive15_any KF KL KR KC)
  have C1 : Hid (∀ w', Below w.heap.size w w' → Calls Try.prog 12 #[.int .i64 p, .slice X xs.length cx] w' (RPost w' (qallC p xs))) := fun w' hb => KL p X cx xs w' (hX.later hb)
  have hlx := hX.le
  have hcx := hX.cap
  have HX := Lib.hid hX
  unfold RPost at C1
  clear hX KF KL KR KC
  by_cases he : (qallC p xs).2 = 0
  · by_cases hp : (xs.length : Int) < p
    · have hI := qallC_inv he
      have hO := qallC_one he hp
      obtain ⟨⟨S, ei⟩, hq⟩ : ∃ q, qallC p xs = q := ⟨_, rfl⟩
      rw [hq] at C1 he hI hO
      dsimp only at C1 he hI hO
      subst he
      have hp100 := hI.right.p2
      have hs400 := hI.right.len
      have HE : Hid (S.map Rk.n = imsort xs) := imsort_only hO.2 ((qsrt_map S).1 hI.right.srt)
      have HO := Lib.hid hO.1
      have hml : (S.map Rk.n).length = S.length := by simp
      have hxl : xs.length < 100 := by omega
      have himl : (imsort xs).length = xs.length := by unfold imsort; exact List.length_mergeSort _
      have hpx : decide (p ≤ (xs.length : Int)) = false := decide_eq_false (by omega)
      have hpx2 : ¬ p ≤ (xs.length : Int) := by omega
      clear hq hI hO
      go_enter Try.func7, Try.ntmps7
      go_wp2_with fail
      refine (CA.out _).mono ?_
      rintro e w1 ⟨rfl, hb⟩
      have HB1 := Lib.hid hb
      clear hb
      go_wp2_with fail
      refine (C1.out _ HB1.out).mono ?_
      rintro e w2 ⟨R, c, rfl, hP, hb⟩
      have HB2 := Lib.hid (HB1.out.trans (hb.mono HB1.out.size))
      have HP := Lib.hid hP
      have hle := hP.le
      have hca := hP.cap
      clear hb hP HB1 C1 CA
      go_wp2_with fail
      obtain ⟨B2, hB2⟩ : ∃ B2, w2.heap.size = B2 := ⟨_, rfl⟩
      have HBB := Lib.hid hB2
      clear hB2
      go_loopw [7, 28] (fun gv iv wr => ∃ k : Nat, k ≤ S.length ∧ iv = .int .i64 k ∧ OI wr B2 gv ((S.take k).map Rk.n) ∧ Below B2 w2 wr) (fun _ iv _ => S.length - (intOf iv).toNat)
      case atStart => exact ⟨0, by omega, rfl, OI.nil _ _, Below.refl _ _⟩
      case round =>
        obtain ⟨k, hk, rfl, hG, hD⟩ := hrel
        have HG := Lib.hid hG
        have HD := Lib.hid hD
        have hD2 : Below w2.heap.size w2 wr := by rw [HBB.out]; exact hD
        have HD2 := Lib.hid hD2
        clear hG hD hD2
        by_cases hlt : k < S.length
        · obtain ⟨g, o, rfl, _, hcell⟩ := (HP.out.later HD2.out).il (by omega)
          obtain ⟨c0, c1, c2⟩ := hcell k hlt
          obtain ⟨e1, e2⟩ := HO.out _ (rat_mem hlt)
          rw [e1] at c1
          rw [e2] at c2
          have hki : (k : Int) < (S.length : Int) := by omega
          have E := Lib.hid (map_take hlt)
          have hkl : ((S.take k).map Rk.n).length ≤ 400 := by rw [List.length_map, List.length_take]; omega
          have hsz : B2 ≤ wr.heap.size := by have := HD2.out.size; rw [HBB.out] at this; exact this
          have HGN := Lib.hid (HG.out.alloc (.cells #[.int .i64 (rat S k).n, .int .i64 1, .int .i64 0] 33))
          have HDN := Lib.hid (HD.out.alloc hsz (.cells #[.int .i64 (rat S k).n, .int .i64 1, .int .i64 0] 33))
          clear hcell e1 e2
          generalize (rat S k).n = N at *
          generalize (S.take k).map Rk.n = L at *
          go_wp2_with (at_builtin; refine wpList_push rfl _ _ rfl B2 u7 L N rfl HGN.out (by rw [World.size_alloc]; rfl) (by omega) (Nat.le_trans (Nat.le_of_eq HBB.out.symm) HDN.out.size) HDN.out ?_)
          intro g3 cap3 w6 hO6 hB6 _
          have HO6 := Lib.hid hO6
          have HB6 := Lib.hid hB6
          clear hO6 hB6
          go_wp2
          go_roundw
          case rel => exact ⟨k + 1, by omega, by go_num, by rw [E.out]; exact HO6.out, HB6.out⟩
          case measure => simp [intOf]; omega
        · obtain rfl : k = S.length := by omega
          rw [List.take_length, HE.out] at HG
          have hG := HG.out
          obtain ⟨RG, cG, rfl, hIG⟩ := hG.ip
          have hbv : Below wr.heap.size wr (wr.alloc (.cells #[.slice X xs.length cx] 23)) := (Below.refl _ _).alloc (Nat.le_refl _) _
          have HBW := Lib.hid (HB2.out.trans (HD2.out.mono HB2.out.size))
          have HBW2 := Lib.hid (HBW.out.trans (hbv.mono HBW.out.size))
          have CV := Lib.hid (ivalues_any X xs.length cx wr)
          have CS := Lib.hid (sorted_any wr.heap.size X cx xs (by omega) (wr.alloc (.cells #[.slice X xs.length cx] 23)) (Boxed.new _ _ _) (HX.out.later HBW2.out).il)
          have HIG := Lib.hid (hIG.later hbv)
          clear hG hIG hbv HG HD
          rw [himl]
          go_wp2_with fail
          refine CV.out.mono ?_
          rintro e w3 ⟨rfl, rfl⟩
          go_wp2_with fail
          refine CS.out.mono ?_
          rintro e w4 ⟨v, rfl, hO4, hb4⟩
          obtain ⟨RS, cS, rfl, hIS⟩ := hO4.ip
          have CE := Lib.hid (iequal_any RG RS cG cS (imsort xs) (imsort xs) w4 (HIG.out.later hb4).il hIS.il (by omega) (by omega))
          rw [decide_eq_true rfl, himl] at CE
          have HB4 := Lib.hid (HBW2.out.trans (hb4.mono HBW2.out.size))
          have hms : (xs.mergeSort fun x y => decide (x ≤ y)).length = xs.length := List.length_mergeSort _
          rw [hms]
          clear hO4 hIS hb4 CS CV
          go_wp2_with fail
          refine CE.out.mono ?_
          rintro e w5 ⟨rfl, hb5⟩
          have HB5 := Lib.hid (HB4.out.trans (hb5.mono HB4.out.size))
          clear hb5
          go_wp2
          go_ret
          exact ⟨rfl, HB5.out⟩
    · obtain ⟨⟨S, ei⟩, hq⟩ : ∃ q, qallC p xs = q := ⟨_, rfl⟩
      rw [hq] at C1 he
      dsimp only at C1 he
      subst he
      have hpx : decide (p ≤ (xs.length : Int)) = true := decide_eq_true (by omega)
      clear hq
      go_enter Try.func7, Try.ntmps7
      go_wp2_with fail
      refine (CA.out _).mono ?_
      rintro e w1 ⟨rfl, hb⟩
      have HB1 := Lib.hid hb
      clear hb
      go_wp2_with fail
      refine (C1.out _ HB1.out).mono ?_
      rintro e w2 ⟨R, c, rfl, hP, hb⟩
      have HB2 := Lib.hid (HB1.out.trans (hb.mono HB1.out.size))
      clear hb hP
      go_wp2
      go_ret
      exact ⟨rfl, HB2.out⟩
  · obtain ⟨⟨S, ei⟩, hq⟩ : ∃ q, qallC p xs = q := ⟨_, rfl⟩
    rw [hq] at C1 he
    dsimp only at C1 he
    have hei : (ei != 0) = true := by rw [bne_iff_ne]; exact he
    clear hq he
    go_enter Try.func7, Try.ntmps7
    go_wp2_with fail
    refine (CA.out _).mono ?_
    rintro e w1 ⟨rfl, hb⟩
    have HB1 := Lib.hid hb
    clear hb
    go_wp2_with fail
    refine (C1.out _ HB1.out).mono ?_
    rintro e w2 ⟨R, c, rfl, hP, hb⟩
    have HB2 := Lib.hid (HB1.out.trans (hb.mono HB1.out.size))
    clear hb hP
    go_wp2
    go_ret
    exact ⟨rfl, HB2.out⟩
end Go.Proofs.Ytimcbeblmicioaa
