/- lotdrawerref.Mixed; the closure of PoolEven. -/
import Derived.Test.YtimeimagncechaaZb
import Derived.Test.YtimeimagncechaaMk6
namespace Go.Proofs.Ytimeimagncechaa
open Go.RowKit Go.Deep Go.Maps

theorem mixN_at {bs : List Nat} {k y : Nat} (h : k < bs.length) : mixN y (bs.drop k) = y % bs.getD k 0 :: mixN (y / bs.getD k 0) (bs.drop (k + 1)) := by
  rw [List.drop_eq_getElem_cons h, mixN]
  simp [List.getD_eq_getElem?_getD, h]

set_option maxRecDepth 100000 in
set_option maxHeartbeats 2000000 in
theorem mixed_any (x : Nat) (A : Option Addr) (ca : Nat) (bs : List Nat) (w : World) (h : IP w A ca (inN bs)) (hpos : ∀ b ∈ bs, 0 < b ∧ b ≤ 1000) (hx : x ≤ 100000) (hl : bs.length ≤ 1000) :
    Calls Try.prog 24 #[.int .i64 x, .slice A bs.length ca] w fun e w' => ∃ v, e = .returned v ∧ OI w' w.heap.size v (inN (mixN x bs)) ∧ Below w.heap.size w w' := by
  have HI := Lib.hid h
  have HP := Lib.hid hpos
  clear h hpos
  go_enter Try.func24, Try.ntmps24
  go_wp2_with fail
  go_loopw [0, 5, 10] (fun xv ov iv wr => ∃ (k y : Nat) (ds : List Nat), k ≤ bs.length ∧ y ≤ 100000 ∧ ds.length = k ∧ xv = .int .i64 y ∧ iv = .int .i64 k ∧ OI wr w.heap.size ov (inN ds) ∧ mixN x bs = ds ++ mixN y (bs.drop k) ∧ Below w.heap.size w wr) (fun _ _ iv _ => bs.length - (intOf iv).toNat)
  case atStart => exact ⟨0, x, [], by omega, hx, rfl, rfl, rfl, OI.nil _ _, by simp, Below.refl _ _⟩
  case round =>
    obtain ⟨k, y, ds, hk, hy, hdl, rfl, rfl, hO, hE, hB⟩ := hrel
    obtain ⟨V, cv, rfl⟩ := hO.shape
    have HO := Lib.hid hO
    have HE := Lib.hid hE
    have HB := Lib.hid hB
    have hsz := hB.size
    have HDL := Lib.hid hdl
    clear hO hE hB hdl
    by_cases hlt : k < bs.length
    · obtain ⟨b0, off, rfl, _, hcl⟩ := (HI.out.later HB.out).il.at (by rw [inN_len]; omega)
      have hcx := hcl k (by rw [inN_len]; exact hlt)
      rw [inN_at] at hcx
      have HE2 := Lib.hid (HE.out.trans (by rw [mixN_at hlt]))
      have hb := HP.out (bs.getD k 0) (by simp [List.getD_eq_getElem?_getD, hlt])
      have hk1 : k + 1 ≤ bs.length := hlt
      obtain ⟨b, hbb⟩ : ∃ b, bs.getD k 0 = b := ⟨_, rfl⟩
      rw [hbb] at hcx HE2 hb
      obtain ⟨hb0, hb1⟩ := hb
      have e2 : (y : Int).tmod (b : Int) = ((y % b : Nat) : Int) := by rw [Int.ofNat_tmod]
      have e3 : (y : Int).tdiv (b : Int) = ((y / b : Nat) : Int) := by rw [Int.ofNat_tdiv]
      have hz : ((b : Int) == 0) = false := eqz_no (by omega)
      have hq1 : y / b ≤ 100000 := Nat.le_trans (Nat.div_le_self _ _) hy
      have hq2 : y % b ≤ 100000 := Nat.le_trans (Nat.mod_le _ _) hy
      generalize y % b = r at *
      generalize y / b = q at *
      have hdn : (inN ds).length < 17592186044416 := by rw [inN_len, HDL.out]; omega
      have HDN := Lib.hid hdn
      clear hcl HE hbb hdn
      go_wp2_with (at_builtin; refine wpList_push rfl _ _ rfl w.heap.size (.slice V (inN ds).length cv) (inN ds) (r : Int) rfl HO.out rfl HDN.out hsz HB.out ?_)
      intro g cap w2 ho2 hB2 _
      have HO2 : Hid (OI w2 w.heap.size (.slice (some ⟨g, 0, none⟩) ((inN ds).length + 1) cap) (inN (ds ++ [r]))) := by
        show OI _ _ _ _
        rw [inN_append]; exact ho2
      have HB2 := Lib.hid hB2
      clear ho2 hB2 HO HB
      go_wp2
      go_roundw
      case rel => exact ⟨k + 1, q, ds ++ [r], hk1, hq1, by simp [HDL.out], rfl, by go_num, HO2.out, by rw [HE2.out]; simp, HB2.out⟩
      case measure => simp [intOf]; omega
    · obtain rfl : k = bs.length := by omega
      have HE2 : Hid (mixN x bs = ds) := HE.out.trans (by rw [List.drop_eq_nil_of_le (Nat.le_refl _)]; simp [mixN])
      clear HE
      go_wp2
      go_ret
      exact ⟨_, rfl, by rw [HE2.out]; exact HO.out, HB.out⟩

theorem pow_small {k : Nat} (hk : k < 6) : ∃ q : Nat, 2 ^ k = q ∧ 1 ≤ q ∧ q < 64 ∧ (2 : Int) ^ k = (q : Int) := by
  refine ⟨2 ^ k, rfl, Nat.one_le_two_pow, Nat.pow_lt_pow_right (a := 2) (m := k) (n := 6) (by omega) hk, by simp⟩
theorem take_snocN {l : List Nat} {k : Nat} (h : k < l.length) : l.take (k + 1) = l.take k ++ [l.getD k 0] := by
  rw [List.take_succ_eq_append_getElem h]
  simp [List.getD_eq_getElem?_getD, h]

set_option maxRecDepth 100000 in
set_option maxHeartbeats 2000000 in
theorem evenLook_any (r c : Int) (A : Option Addr) (ca : Nat) (xs : List Nat) (t M : Nat) (S : List Nat) (w : World) (hx : IP w A ca (inN xs)) (hlt : ∀ x ∈ xs, x < 6) (hlen : xs.length ≤ 400) (ht : Bs 38 w t [.map (some M)]) (hm : CntM w M S) (hS : S.length < 100000) :
    Calls Try.prog 22 #[pv r c (.slice A xs.length ca), .pointer (some ⟨t, 0, none⟩)] w fun e w' => e = .returned (.tuple #[]) ∧ CntM w' M (setN xs :: S) ∧ w.grownBy w' (some M) := by
  have b1 : Below w.heap.size w (w.alloc (.cells #[.int .i64 r, .int .i64 c, .slice A xs.length ca] 24)) := (Below.refl _ _).alloc (Nat.le_refl _) _
  have HX := Lib.hid (hx.later b1)
  have HM := Lib.hid (hm.later b1)
  have ht1 := (ht.below b1 (Bs.lt ht)).cell (j := 0) (by simp)
  simp only [List.getElem?_cons_zero] at ht1
  have HT := Lib.hid ht1
  have HL := Lib.hid hlt
  have HS := Lib.hid hS
  have HG := Lib.hid (World.grownBy_alloc w (.cells #[.int .i64 r, .int .i64 c, .slice A xs.length ca] 24) (some M))
  unfold pv
  clear hx hm ht ht1 hlt hS b1
  go_enter Try.func22, Try.ntmps22
  go_wp2_with fail
  generalize w.alloc (.cells #[.int .i64 r, .int .i64 c, .slice A xs.length ca] 24) = wb at *
  go_loopw [3, 9] (fun sv iv wr => ∃ k : Nat, k ≤ xs.length ∧ sv = .int .i64 (setN (xs.take k) : Nat) ∧ iv = .int .i64 k ∧ wr = wb) (fun _ iv _ => xs.length - (intOf iv).toNat)
  case atStart => exact ⟨0, by omega, rfl, rfl, rfl⟩
  case round =>
    obtain ⟨k, hk, rfl, rfl, rfl⟩ := hrel
    by_cases hkl : k < xs.length
    · obtain ⟨b0, off, rfl, _, hcl⟩ := HX.out.il.at (by rw [inN_len]; omega)
      have hcx := hcl k (by rw [inN_len]; exact hkl)
      rw [inN_at] at hcx
      have hs1 : setN (xs.take k) < 64 := setN_lt (fun x hx => HL.out x (List.mem_of_mem_take hx))
      have hx6 := HL.out (xs.getD k 0) (by simp [List.getD_eq_getElem?_getD, hkl])
      have HE := Lib.hid (setN_snoc (xs.take k) (xs.getD k 0))
      rw [← take_snocN hkl] at HE
      obtain ⟨x, hxx⟩ : ∃ x, xs.getD k 0 = x := ⟨_, rfl⟩
      rw [hxx] at hcx HE hx6
      obtain ⟨q, hq, hq1, hq2, hq3⟩ := pow_small hx6
      rw [hq] at HE
      have hor := or_small hs1 hq2
      have hos : setN (xs.take k) ||| q < 64 := Nat.or_lt_two_pow (n := 6) hs1 hq2
      generalize setN (xs.take k) ||| q = s2 at *
      generalize setN (xs.take k) = s at *
      have hk1 : k + 1 ≤ xs.length := hkl
      clear hcl hxx hq
      go_wp2
      go_roundw
      case rel => exact ⟨k + 1, hk1, by rw [HE.out], by go_num, by first | rfl | trivial⟩
      case measure => simp [intOf]; omega
    · obtain rfl : k = xs.length := by omega
      rw [List.take_length]
      have hs1 : setN xs < 1000000 := Nat.lt_trans (setN_lt HL.out) (by omega)
      have HS1 := Lib.hid hs1
      obtain ⟨s, hs⟩ : ∃ s, setN xs = s := ⟨_, rfl⟩
      rw [hs] at HS1 ⊢
      obtain ⟨c0, hc0⟩ : ∃ c0, S.count s = c0 := ⟨_, rfl⟩
      have hc1 : c0 < 100000 := by
        have h1 := List.count_le_length (a := s) (l := S)
        have h2 := HS.out
        omega
      have HC0 := Lib.hid hc0
      have ct := HT.out
      have HSE := Lib.hid hs
      clear hc0 hs hs1
      go_wp2_with (first
        | (at_lookup; refine wpList_cntLook rfl _ _ rfl M S s rfl rfl HS1.out HM.out c0 HC0.out ?_)
        | (at_mapUpdate; refine wpList_cntPut rfl _ _ _ rfl M S s rfl rfl c0 HC0.out rfl HS1.out HM.out HS.out ?_; intro w1 hM1 hg1))
      go_end0
      exact ⟨rfl, by rw [HSE.out]; exact hM1, HG.out.trans hg1⟩
end Go.Proofs.Ytimeimagncechaa
