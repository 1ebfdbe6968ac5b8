/- lotdrawerref.Mixed. -/
import Derived.Test.YtjhcbjpbmbjgoaaZy
import Derived.Test.YtjhcbjpbmbjgoaaMk6
namespace Go.Proofs.Ytjhcbjpbmbjgoaa
open Go.RowKit Go.Deep Go.Maps

theorem mixN_at {bs : List Nat} {k y : Nat} (h : k < bs.length) : mixN y (bs.drop k) = y % bs.getD k 0 :: mixN (y / bs.getD k 0) (bs.drop (k + 1)) := by
  rw [List.drop_eq_getElem_cons h, mixN]
  simp [List.getD_eq_getElem?_getD, h]

set_option maxRecDepth 100000 in
set_option maxHeartbeats 2000000 in
theorem mixed_any (x : Nat) (A : Option Addr) (ca : Nat) (bs : List Nat) (w : World) (h : IP w A ca (inN bs)) (hpos : ∀ b ∈ bs, 0 < b ∧ b ≤ 1000) (hx : x ≤ 100000) (hl : bs.length ≤ 1000) :
    Calls Try.prog 25 #[.int .i64 x, .slice A bs.length ca] w fun e w' => ∃ v, e = .returned v ∧ OI w' w.heap.size v (inN (mixN x bs)) ∧ Below w.heap.size w w' := by
  have HI := Lib.hid h
  have HP := Lib.hid hpos
  clear h hpos
  go_enter Try.func25, Try.ntmps25
  go_wp2_with fail
  go_loopw [0, 5, 10] (fun xv ov iv wr => ∃ (k y : Nat) (ds : List Nat), k ≤ bs.length ∧ y ≤ 100000 ∧ ds.length = k ∧ xv = .int .i64 y ∧ iv = .int .i64 k ∧ OI wr w.heap.size ov (inN ds) ∧ mixN x bs = ds ++ mixN y (bs.drop k) ∧ Below w.heap.size w wr) (fun _ _ iv _ => bs.length - (intOf iv).toNat)
  case atStart => exact ⟨0, x, [], by omega, hx, rfl, rfl, rfl, OI.nil _ _, by simp, Below.refl _ _⟩
  case round =>
    obtain ⟨k, y, ds, hk, hy, hdl, rfl, rfl, hO, hE, hB⟩ := hrel
    obtain ⟨V, cv, rfl⟩ := hO.shape
    have HO := Lib.hid hO
    have HE := Lib.hid hE
    have HB := Lib.hid hB
    have hsz := hB.size
    have HDL := Lib.hid hdl
    clear hO hE hB hdl
    by_cases hlt : k < bs.length
    · obtain ⟨b0, off, rfl, _, hcl⟩ := (HI.out.later HB.out).il.at (by rw [inN_len]; omega)
      have hcx := hcl k (by rw [inN_len]; exact hlt)
      rw [inN_at] at hcx
      have HE2 := Lib.hid (HE.out.trans (by rw [mixN_at hlt]))
      have hb := HP.out (bs.getD k 0) (by simp [List.getD_eq_getElem?_getD, hlt])
      have hk1 : k + 1 ≤ bs.length := hlt
      obtain ⟨b, hbb⟩ : ∃ b, bs.getD k 0 = b := ⟨_, rfl⟩
      rw [hbb] at hcx HE2 hb
      obtain ⟨hb0, hb1⟩ := hb
      have e2 : (y : Int).tmod (b : Int) = ((y % b : Nat) : Int) := by rw [Int.ofNat_tmod]
      have e3 : (y : Int).tdiv (b : Int) = ((y / b : Nat) : Int) := by rw [Int.ofNat_tdiv]
      have hz : ((b : Int) == 0) = false := eqz_no (by omega)
      have hq1 : y / b ≤ 100000 := Nat.le_trans (Nat.div_le_self _ _) hy
      have hq2 : y % b ≤ 100000 := Nat.le_trans (Nat.mod_le _ _) hy
      generalize y % b = r at *
      generalize y / b = q at *
      have hdn : (inN ds).length < 17592186044416 := by rw [inN_len, HDL.out]; omega
      have HDN := Lib.hid hdn
      clear hcl HE hbb hdn
      go_wp2_with (at_builtin; refine wpList_push rfl _ _ rfl w.heap.size (.slice V (inN ds).length cv) (inN ds) (r : Int) rfl HO.out rfl HDN.out hsz HB.out ?_)
      intro g cap w2 ho2 hB2 _
      have HO2 : Hid (OI w2 w.heap.size (.slice (some ⟨g, 0, none⟩) ((inN ds).length + 1) cap) (inN (ds ++ [r]))) := by
        show OI _ _ _ _
        rw [inN_append]; exact ho2
      have HB2 := Lib.hid hB2
      clear ho2 hB2 HO HB
      go_wp2
      go_roundw
      case rel => exact ⟨k + 1, q, ds ++ [r], hk1, hq1, by simp [HDL.out], rfl, by go_num, HO2.out, by rw [HE2.out]; simp, HB2.out⟩
      case measure => simp [intOf]; omega
    · obtain rfl : k = bs.length := by omega
      have HE2 : Hid (mixN x bs = ds) := HE.out.trans (by rw [List.drop_eq_nil_of_le (Nat.le_refl _)]; simp [mixN])
      clear HE
      go_wp2
      go_ret
      exact ⟨_, rfl, by rw [HE2.out]; exact HO.out, HB.out⟩
end Go.Proofs.Ytjhcbjpbmbjgoaa
