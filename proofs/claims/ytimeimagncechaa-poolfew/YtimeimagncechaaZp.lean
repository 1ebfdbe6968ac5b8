/- lotdrawerkeep.PoolFew: the walk. -/
import Derived.Test.YtimeimagncechaaZk
import Derived.Test.YtimeimagncechaaZo
namespace Go.Proofs.Ytimeimagncechaa
open Go.RowKit Go.Deep

set_option maxRecDepth 100000 in
set_option maxHeartbeats 8000000 in
theorem poolFew_walk (room : Int) (L : Option Addr) (cl : Nat) (l : List Int) (D : Option Addr) (cd : Nat) (ds : List Int) (w : World) (hl : IP w L cl l) (hd : IP w D cd ds) (hs : cl * 8 ≤ 140737488351232) :
    Calls Try.prog 7 #[.int .i64 room, .slice L l.length cl, .slice D ds.length cd] w fun e w' => e = .returned (.bool true) ∧ Below w.heap.size w w' := by
  have CA := Lib.hid (alive6_any w)
  have hle := hl.le
  have hcap := hl.cap
  have HL := Lib.hid hl
  have HD := Lib.hid hd
  have C1 : Hid (∀ w', IP w' L cl l → IP w' D cd ds → Calls Try.prog 16 #[.int .i64 room, .slice L l.length cl, .slice D ds.length cd] w' (PPost w'.heap.size w' (allR room l ds))) := fun w' h1 h2 => poolAll_any room L cl l D cd ds w' h1 h2
  clear hl hd
  go_enter Try.func7, Try.ntmps7
  go_wp2_with fail
  refine CA.out.mono ?_
  rintro e w1 ⟨rfl, hb1⟩
  have HB1 := Lib.hid hb1
  have HL1 := Lib.hid (HL.out.later hb1)
  have HD1 := Lib.hid (HD.out.later hb1)
  clear CA hb1
  rcases allR_cases room l ds with ⟨er, he, hE⟩ | ⟨ys, hE, hG, hP, hlen, r1, r2⟩
  · rw [hE] at C1
    have t1 : (er != 0) = true := by rw [bne_iff_ne]; exact he
    clear hE he
    unfold pz at C1
    go_wp2_with fail
    refine (C1.out _ HL1.out HD1.out).mono ?_
    rintro e w2 ⟨v, rfl, hO, hb⟩
    obtain ⟨R, cr, rfl⟩ := hO.shape
    have HB2 := Lib.hid (HB1.out.trans (hb.mono HB1.out.size))
    clear hO hb C1
    unfold pv
    go_wp2
    go_ret
    exact ⟨rfl, HB2.out.alloc HB2.out.size _⟩
  · rw [hE] at C1
    clear hE
    have HP := Lib.hid hP
    have HG := Lib.hid hG
    have HN := Lib.hid hlen
    have hyl := pr_len hP
    clear hP hG hlen
    go_wp2_with fail
    refine (C1.out _ HL1.out HD1.out).mono ?_
    rintro e w2 ⟨v, rfl, hO, hb⟩
    obtain ⟨R, cr, rfl⟩ := hO.shape
    obtain ⟨_, _, e, hI⟩ := hO.ip
    cases e
    have b4 : Below w2.heap.size w2 (w2.alloc (.cells #[.int .i64 room, .int .i64 l.length, .slice R ys.length cr] 24)) := (Below.refl _ _).alloc (Nat.le_refl _) _
    have hb2 := hb.trans (b4.mono hb.size)
    have HB2 := Lib.hid (HB1.out.trans (hb2.mono HB1.out.size))
    have HL2 := Lib.hid (HL1.out.later hb2)
    have HI2 := Lib.hid (hI.later b4)
    have HP2 := Lib.hid (PB.new w2 room l.length (.slice R ys.length cr))
    clear hO hb C1 hI hb2 b4
    unfold pv
    by_cases hfew : (l.length : Int) ≤ room
    · have CE := Lib.hid (iequal_any R L cr cl ys l _ HI2.out.il HL2.out.il (by omega) (by omega))
      have e1 : ys = l := by
        have := HG.out.few (by omega) (by simp)
        simpa using this
      rw [decide_eq_true e1] at CE
      clear e1
      go_wp2_with fail
      refine CE.out.mono ?_
      rintro e w3 ⟨rfl, hb3⟩
      have HB3 := Lib.hid (HB2.out.trans (hb3.mono HB2.out.size))
      clear hb3 CE
      go_wp2
      go_ret
      exact ⟨rfl, HB3.out⟩
    · have hyr : (ys.length : Int) = room := by have := HP.out.2.2.2; omega
      have HYR := Lib.hid hyr
      have t0 : decide ((l.length : Int) ≤ room) = false := decide_eq_false hfew
      have HC : Hid (∀ a, ys.count a ≤ l.count a) := fun a => by have := HG.out.cnt a; simpa using this
      have hpr : prB room l.length ys = true := decide_eq_true HP.out
      have HPR := Lib.hid hpr
      clear hyr hfew HG hpr HL1 HD1 HL HD
      obtain ⟨wb, hwb⟩ : ∃ wb, wb = w2.alloc (.cells #[.int .i64 room, .int .i64 l.length, .slice R ys.length cr] 24) := ⟨_, rfl⟩
      rw [← hwb] at HB2 HL2 HI2 HP2
      have CC := Lib.hid (clone_any L cl l wb HL2.out (by omega))
      subst hwb
      go_wp2_with fail
      refine CC.out.mono ?_
      rintro e w3 ⟨v, rfl, hO, hb3⟩
      obtain ⟨c0, c1, c2, _, _, _⟩ := (HP2.out.later hb3).at
      have HO3 := Lib.hid hO
      have HB3 := Lib.hid hb3
      obtain ⟨V, cv, rfl⟩ := hO.shape
      clear hO hb3 CC
      generalize w2.alloc (.cells #[.int .i64 room, .int .i64 l.length, .slice R ys.length cr] 24) = wb at *
      go_wp2_with fail
      go_loopw [9, 46] (fun hv iv wr => ∃ (k : Nat) (u : List Int), k ≤ ys.length ∧ iv = .int .i64 k ∧ OI wr wb.heap.size hv u ∧ (∀ a, (ys.drop k).count a ≤ u.count a) ∧ Below wb.heap.size wb wr) (fun _ iv _ => ys.length - (intOf iv).toNat)
      case atStart => exact ⟨0, l, by omega, rfl, HO3.out, HC.out, HB3.out⟩
      case round =>
        obtain ⟨k, u, hk, rfl, hO, hcn, hB⟩ := hrel
        clear HO3 HB3 HC c0 c1 c2
        obtain ⟨V, cv, e, hU⟩ := hO.ip
        subst e
        have HOr := Lib.hid hO
        have HBr := Lib.hid hB
        have HCr := Lib.hid hcn
        clear hO hB hcn
        by_cases hlt : k < ys.length
        · obtain ⟨b, off, rfl, _, hcl⟩ := (HI2.out.later HBr.out).il.at (by omega)
          have hcx := hcl k hlt
          have hcd := Lib.hid (drop_cons hlt)
          obtain ⟨x, hx⟩ : ∃ x, ys.getD k 0 = x := ⟨_, rfl⟩
          rw [hx] at hcx hcd
          have CI := Lib.hid (index_any V cv u x wr hU)
          have hi1 : (k : Int) < (ys.length : Int) := by omega
          have hk1 : k + 1 ≤ ys.length := hlt
          clear hcl hx
          go_wp2_with fail
          refine CI.out.mono ?_
          rintro e w4 ⟨ix, rfl, hix, hb4⟩
          rcases hix with ⟨rfl, hno⟩ | ⟨j, rfl, hj, hux⟩
          · exfalso
            have h1 := HCr.out x
            rw [hcd.out, List.count_cons_self] at h1
            exact hno (List.count_pos_iff.1 (by omega))
          · have CD := Lib.hid (delete_any _ wb.heap.size j u w4 (HOr.out.later hb4) hj)
            have HB4 := Lib.hid (HBr.out.trans (hb4.mono HBr.out.size))
            have HC4 : Hid (∀ a, (ys.drop (k + 1)).count a ≤ (u.eraseIdx j).count a) := fun a => by
              have h1 := HCr.out a
              have h2 := count_erase u j hj a
              rw [hux] at h2
              rw [hcd.out, show x :: ys.drop (k + 1) = [x] ++ ys.drop (k + 1) from rfl, List.count_append] at h1
              omega
            have hul := hU.le
            have huc := hU.cap
            clear hb4 hux hU CI HCr hcd
            go_wp2_with fail
            refine CD.out.mono ?_
            rintro e w5 ⟨v', rfl, hO5, hB5, _⟩
            have HO5 := Lib.hid hO5
            have HB5 := Lib.hid (HB4.out.trans hB5)
            clear hO5 hB5 CD
            go_wp2
            go_roundw
            case rel => exact ⟨k + 1, _, hk1, by go_num, HO5.out, HC4.out, HB5.out⟩
            case measure => simp [intOf]; omega
        · obtain rfl : k = ys.length := by omega
          obtain ⟨c0, c1, c2, _, _, _⟩ := (HP2.out.later HBr.out).at
          have CR := Lib.hid (poolRight_any room l.length R cr ys wr)
          rw [HPR.out] at CR
          unfold pv at CR
          have t2 : ((l.length : Int) == (l.length : Int)) = true := by simp
          have t3 : ((ys.length : Int) == room) = true := by rw [HYR.out]; simp
          clear hU HCr
          go_wp2_with fail
          refine CR.out.mono ?_
          rintro e w5 ⟨rfl, hb⟩
          have HB5 := Lib.hid (HB2.out.trans ((HBr.out.trans (hb.mono HBr.out.size)).mono HB2.out.size))
          clear hb CR
          go_wp2
          go_ret
          exact ⟨rfl, HB5.out⟩
end Go.Proofs.Ytimeimagncechaa
