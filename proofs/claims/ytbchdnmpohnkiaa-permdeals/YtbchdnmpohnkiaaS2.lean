/- lotdrawerref.DDeal. -/
import Derived.Test.YtbchdnmpohnkiaaOi
import Derived.Test.YtbchdnmpohnkiaaPe
import Derived.Deep.QuietTactic
import Derived.BigQuiet
import Derived.WalkSmall
namespace Go.Proofs.Ytbchdnmpohnkiaa
open Go.RowKit Go.Deep

/-- So far each choice is in its range. -/
def okE (ds : List Int) (k : Nat) : Bool := decide (ds.length ≤ 20) && (List.range k).all fun (j : Nat) => decide (0 ≤ ds.getD j 0) && decide (ds.getD j 0 ≤ (j : Int))
theorem okE_zero (ds : List Int) : okE ds 0 = decide (ds.length ≤ 20) := by simp [okE]
theorem okE_succ (ds : List Int) (k : Nat) : okE ds (k + 1) = (okE ds k && (decide (0 ≤ ds.getD k 0) && decide (ds.getD k 0 ≤ (k : Int)))) := by simp [okE, List.range_succ, Bool.and_assoc]
theorem okE_end (ds : List Int) : okE ds ds.length = decide (okD ds) := by
  rw [Bool.eq_iff_iff]
  simp only [okE, Bool.and_eq_true, decide_eq_true_eq, List.all_eq_true, List.mem_range]
  rfl
theorem idn_succ (k : Nat) : idn (k + 1) = idn k ++ [(k : Int)] := by simp [idn, List.range_succ]

theorem dls_step {ds : List Int} {i k : Nat} (h : k + 1 + i = ds.length) (e : Nat) (he : ds.getD k 0 = (e : Int)) (hle : e ≤ k) :
    ((dls ds (downTo ds.length i)).set e ((dls ds (downTo ds.length i)).getD k 0)).set k ((dls ds (downTo ds.length i)).getD e 0) = dls ds (downTo ds.length (i + 1)) := by
  rw [downTo_succ, dls_snoc, stp, show ds.length - 1 - i = k by omega, cl_lt (by omega), he, Int.toNat_natCast, swp_comm (by rw [dls_len]; omega) (by rw [dls_len]; omega)]

set_option maxRecDepth 100000 in
set_option maxHeartbeats 2000000 in
theorem ddeal_any (A : Option Addr) (ca : Nat) (ds : List Int) (w : World) (hp : IP w A ca ds) :
    Calls Try.prog 10 #[.slice A ds.length ca] w (LPost w (dealR ds)) := by
  have hle := hp.le
  have hcap := hp.cap
  have HP := Lib.hid hp
  clear hp
  have HZ := Lib.hid (okE_zero ds)
  have HE := Lib.hid (okE_end ds)
  go_enter Try.func10, Try.ntmps10
  go_wp2_with fail
  go_loopw [4, 18] (fun bv iv wr => ∃ k : Nat, k ≤ ds.length ∧ bv = .bool (okE ds k) ∧ iv = .int .i64 k ∧ wr = w) (fun _ iv _ => ds.length - (intOf iv).toNat)
  case atStart => exact ⟨0, by omega, by rw [HZ.out]; simp; omega, rfl, rfl⟩
  case round =>
    clear HZ
    obtain ⟨k, hk, rfl, rfl, rfl⟩ := hrel
    by_cases hlt : k < ds.length
    · have ES := Lib.hid (okE_succ ds k)
      obtain ⟨b, off, rfl, _, hc⟩ := HP.out.il.at (by omega)
      have hcj := hc k hlt
      obtain ⟨y, hy⟩ : ∃ y, ds.getD k 0 = y := ⟨_, rfl⟩
      rw [hy] at hcj ES
      clear hc hy
      have i1 : (k : Int) < (ds.length : Int) := by omega
      generalize okE ds k = b0 at *
      cases b0
      · go_wp2
        go_roundw
        case rel => exact ⟨k + 1, by omega, by rw [ES.out]; rfl, by go_num, trivial⟩
        case measure => simp [intOf]; omega
      · by_cases h0 : 0 ≤ y
        · go_wp2
          go_roundw
          case rel => exact ⟨k + 1, by omega, by rw [ES.out]; simp [h0], by go_num, trivial⟩
          case measure => simp [intOf]; omega
        · go_wp2
          go_roundw
          case rel => exact ⟨k + 1, by omega, by rw [ES.out]; simp [h0], by go_num, trivial⟩
          case measure => simp [intOf]; omega
    · obtain rfl : ds.length = k := by omega
      rw [HE.out]
      by_cases hok : okD ds
      · rw [decide_eq_true hok]
        have HD : Hid (dealR ds = (dealt ds, 0)) := if_pos hok
        have HO := Lib.hid hok
        have hlen := hok.1
        obtain ⟨wa, hwa⟩ : ∃ wa, wa = wr := ⟨_, rfl⟩
        subst hwa
        clear hok HE hk hlt
        go_wp2_with fail
        go_loopw [7, 38] (fun ov iv wr => ∃ (v : Value) (k : Nat), v = ov ∧ k ≤ ds.length ∧ iv = .int .i64 k ∧ OI wr wa.heap.size v (idn k) ∧ Below wa.heap.size wa wr) (fun _ iv _ => ds.length - (intOf iv).toNat)
        case atStart => exact ⟨_, 0, rfl, by omega, rfl, OI.nil _ _, Below.refl _ _⟩
        case round =>
          obtain ⟨v, k, rfl, hk, rfl, ho, hB⟩ := hrel
          have HO2 := Lib.hid ho
          have HB := Lib.hid hB
          have hil := idn_len k
          clear ho hB
          by_cases hlt : k < ds.length
          · have ES := Lib.hid (idn_succ k)
            go_wp2_with (at_builtin; refine wpList_push rfl _ _ rfl wa.heap.size v (idn k) (k : Int) rfl HO2.out rfl (by omega) HB.out.size HB.out ?_)
            intro g cap w2 ho2 hB2 _
            rw [← ES.out] at ho2
            have HO3 := Lib.hid ho2
            have HB3 := Lib.hid hB2
            clear ho2 hB2 HO2 HB
            go_wp2
            go_roundw
            case rel => exact ⟨_, k + 1, rfl, by omega, by go_num, HO3.out, HB3.out⟩
            case measure => simp [intOf]; omega
          · obtain rfl : ds.length = k := by omega
            have hil2 : (dls ds (downTo ds.length 0)) = idn ds.length := rfl
            rw [← hil2] at HO2
            clear hil hil2
            obtain ⟨v0, hv0⟩ : ∃ v0, v0 = v := ⟨_, rfl⟩
            subst hv0
            go_wp2_with fail
            go_loopw [48] (fun iv wr => ∃ i : Nat, i ≤ ds.length ∧ iv = .int .i64 i ∧ OI wr wa.heap.size v0 (dls ds (downTo ds.length i)) ∧ Below wa.heap.size wa wr) (fun iv _ => ds.length - (intOf iv).toNat)
            case atStart => exact ⟨0, by omega, rfl, HO2.out, HB.out⟩
            case round =>
              clear HO2 HB
              obtain ⟨i, hi, rfl, ho, hB⟩ := hrel
              have HB := Lib.hid hB
              have hll := dls_len ds (downTo ds.length i)
              by_cases hlt : i < ds.length
              · obtain ⟨k, hki⟩ : ∃ k, k + 1 + i = ds.length := ⟨ds.length - 1 - i, by omega⟩
                obtain ⟨e, he, hek⟩ := okD_at HO.out (show k < ds.length by omega)
                obtain ⟨g, cap, rfl, hgB, hgl, hgc, hgm, hcell, hfz, ho2⟩ := ho.form hll (by omega)
                obtain ⟨b, off, rfl, _, hc⟩ := (HP.out.il.later HB.out).at (by omega)
                have hck := hc k (by omega)
                rw [he] at hck
                have c1 := hcell k (by omega)
                have c2 := hcell e (by omega)
                have f1 := hfz k
                have f2 := hfz e
                have ES := Lib.hid (dls_step hki e he hek)
                have HO3 := Lib.hid ho2
                have HGB := Lib.hid hgB
                have HLL := Lib.hid hll
                clear ho hcell hfz hc he ho2 hgB hB
                generalize hvk : (dls ds (downTo ds.length i)).getD k 0 = vk at *
                generalize hve : (dls ds (downTo ds.length i)).getD e 0 = ve at *
                clear hvk hve
                have i1 : (k : Int) < (ds.length : Int) := by omega
                have i2 : (e : Int) < (ds.length : Int) := by omega
                have i3 : (ds.length : Int) - 1 - (i : Int) = (k : Int) := by omega
                clear hll
                go_wp2_with fail
                go_quiet (fail)
                have d0 : OI (wr.drewN nq) wa.heap.size (.slice (some ⟨g, 0, none⟩) ds.length cap) (dls ds (downTo ds.length i)) := HO3.out
                have d1 := (d0.set e vk).at (i := k) (by rw [List.length_set, HLL.out]; omega)
                have d2 := (d0.set e vk).frozen k
                clear d0
                generalize ((dls ds (downTo ds.length i)).set e vk).getD k 0 = y at *
                go_wp2
                go_roundw
                case rel => exact ⟨i + 1, by omega, by go_num, by rw [← ES.out]; exact (HO3.out.set e vk).set k ve, (below_drewN HB.out _ |>.setCell (p := ⟨g, e, none⟩) HGB.out _).setCell (p := ⟨g, k, none⟩) HGB.out _⟩
                case measure => simp [intOf]; omega
              · obtain rfl : ds.length = i := by omega
                obtain ⟨R, cr, rfl, hI⟩ := ho.ip
                have HI := Lib.hid hI
                clear ho hI
                go_wp2
                go_ret2
                rw [HD.out]
                exact ⟨R, cr, rfl, HI.out, HB.out⟩
      · rw [decide_eq_false hok]
        have HD : Hid (dealR ds = ([], 2)) := if_neg hok
        clear hok HE
        go_wp2
        go_ret2
        rw [HD.out]
        exact lpost_none (Below.refl _ _)
end Go.Proofs.Ytbchdnmpohnkiaa
