/- lotdrawerref.FSmaller. -/
import Derived.Test.YtimeimagncechaaZg
import Derived.Test.YtimeimagncechaaZc
import Derived.Laws.AppendOwnNone
namespace Go.Proofs.Ytimeimagncechaa
open Go.RowKit Go.Deep

/-- 'append([]int{}, l...)', where l may be nil. -/
theorem wpList_copyA {wr : World} {ops : Array Oper} {rest : List Oper} {o : Oper} {a : Act} {Q : Exit → Act → World → Prop} (hgd : o.guard = none) (s x : Operand)
    (ho : o.op = .call { callee := .builtin .append, args := #[s, x], argTypes := #[22, 22] }) (A : Option Addr) (n c : Nat) (l : List Int) (hn : l.length = n) (hs : a.eval s = .slice (some ⟨wr.heap.size, 0, none⟩) 0 0)
    (hx : a.eval x = .slice A n c) (hl : IP wr A c l) (hb : l.length < 17592186044416)
    (h : ∀ v' w', OI w' wr.heap.size v' l → Below wr.heap.size wr w' → wpList Try.prog ops Q rest (a.put o.dst v') w') :
    wpList Try.prog ops Q (o :: rest) a (wr.alloc (.cells #[] 3)) := by
  subst hn
  obtain ⟨i0, hi0, hz0, hz1, hz2⟩ := info_parts info_int
  cases A with
  | none =>
    obtain rfl : c = 0 := hl.none rfl
    obtain rfl : l = [] := by
      have := hl.le
      exact List.eq_nil_of_length_eq_zero (by omega)
    refine wpList_append_own_none hgd s x 22 ho wr.heap.size 3 i0 1 Try.underlying22 hi0 _ 0 [] hs (World.ownsRow_made wr #[] 0 (Nat.le_refl _) (Nat.zero_le _) rfl) hx ?_
    refine h _ _ ?_ ((Below.refl _ _).alloc (Nat.le_refl _) _)
    exact World.ownsRow_made wr #[] 0 (Nat.le_refl _) (Nat.zero_le _) rfl
  | some ad =>
    refine wpList_append_own _ hgd s x 22 ho wr.heap.size 3 i0 (.int .i64 0) 1 8 Try.underlying22 hi0 hz0 hz1 hz2 rfl (by decide) _ 0 [] hs (World.ownsRow_made wr #[] 0 (Nat.le_refl _) (Nat.zero_le _) rfl) ad l.length c (ivs l) hx ?c0 ?c1 ?c2 ?c3 ?c4 ?c5 ?_
    case c0 => simp [ivs]
    case c1 =>
      intro j u hj
      have hj2 : j < l.length := by have := (List.getElem?_eq_some_iff.1 hj).1; rwa [ivs_len] at this
      obtain ⟨b', off', e, hlt, hc⟩ := hl.il.at (by omega)
      cases e
      rw [Addr.add_lit]
      have e2 : (wr.alloc (.cells #[] 3)).cell? ⟨b', off' + j, none⟩ = wr.cell? ⟨b', off' + j, none⟩ := World.cell?_of_block (heap_alloc_old wr _ hlt)
      rw [e2, hc j hj2, ← hj, ivs_at hj2]
    case c2 => intro u hu; obtain ⟨y, _, rfl⟩ := List.mem_map.1 hu; rfl
    case c3 => unfold maxLen; omega
    case c4 => omega
    case c5 => simp
    intro v' w' hown hgrow hnil
    refine h v' w' ?_ ?_
    · unfold OI
      rw [Nat.zero_add, List.nil_append] at hown
      exact hown
    · exact ((Below.refl _ wr).alloc (Nat.le_refl _) _).grown hgrow (by simp) (by intro k hk; simp [Value.ownBlock] at hk; omega)

/-- All of them up to j but the one at e. -/
def erT (ys : List Int) (e j : Nat) : List Int := (ys.take j).eraseIdx e
theorem erT_hit {ys : List Int} {e : Nat} (h : e < ys.length) : erT ys e (e + 1) = erT ys e e := by
  unfold erT
  rw [List.take_succ_eq_append_getElem h, List.eraseIdx_append_of_length_le (by simp; omega), List.eraseIdx_of_length_le (by simp; omega : (ys.take e).length ≤ e)]
  have : e - (ys.take e).length = 0 := by simp; omega
  rw [this]; simp
theorem erT_not {ys : List Int} {e j : Nat} (h : j < ys.length) (hne : j ≠ e) : erT ys e (j + 1) = erT ys e j ++ [ys.getD j 0] := by
  unfold erT
  have hg : ys[j] = ys.getD j 0 := by simp [List.getD_eq_getElem?_getD, h]
  rw [List.take_succ_eq_append_getElem h, hg]
  rcases Nat.lt_or_ge e j with h1 | h1
  · rw [List.eraseIdx_append_of_lt_length (by simp; omega)]
  · rw [List.eraseIdx_of_length_le (by simp; omega), List.eraseIdx_of_length_le (by simp; omega)]
theorem erT_len (ys : List Int) (e j : Nat) : (erT ys e j).length ≤ ys.length := by
  unfold erT
  have h1 := List.length_eraseIdx_le (ys.take j) e
  have h2 : (ys.take j).length ≤ ys.length := by simp; omega
  omega
theorem erT_all (ys : List Int) (e : Nat) : erT ys e ys.length = ys.eraseIdx e := by unfold erT; rw [List.take_length]

set_option maxRecDepth 100000 in
set_option maxHeartbeats 4000000 in
theorem fSmaller_any (r c : Int) (A : Option Addr) (ca : Nat) (xs : List Int) (room : Int) (D : Option Addr) (cd : Nat) (ds : List Int) (w : World) (hx : IP w A ca xs) (hd : IP w D cd ds) :
    Calls Try.prog 19 #[pv r c (.slice A xs.length ca), .int .i64 room, .slice D ds.length cd] w (PPost w.heap.size w (lessR r c xs room ds)) := by
  have HB : Hid (Below w.heap.size w ((w.alloc (.cells #[.int .i64 r, .int .i64 c, .slice A xs.length ca] 24)).alloc (.cells #[.int .i64 0, .int .i64 0, .slice none 0 0] 24))) := ((Below.refl _ _).alloc (Nat.le_refl _) _).alloc (by simp) _
  have C := Lib.hid (fRight_any r c A ca xs ((w.alloc (.cells #[.int .i64 r, .int .i64 c, .slice A xs.length ca] 24)).alloc (.cells #[.int .i64 0, .int .i64 0, .slice none 0 0] 24)))
  have HP := Lib.hid ((PB.new w r c (.slice A xs.length ca)).alloc (.cells #[.int .i64 0, .int .i64 0, .slice none 0 0] 24))
  have HQ := Lib.hid (PB.new2 w (.cells #[.int .i64 r, .int .i64 c, .slice A xs.length ca] 24) 0 0 (.slice none 0 0))
  have hle2 := hd.le
  have hcap2 := hd.cap
  have HX := Lib.hid hx
  have HD := Lib.hid hd
  clear hx hd
  by_cases h : PR r c xs
  · have e1 : prB r c xs = true := decide_eq_true h
    have E : Hid (lessR r c xs room ds = if room < 1 ∨ r < room then (pz, 2) else outR room c xs ds) := if_pos h
    have HH := Lib.hid h
    rw [e1] at C
    obtain ⟨⟨p1, p2⟩, p3, p4, p5⟩ := h
    clear p5 e1
    unfold pv at *
    by_cases hr : room < 1 ∨ r < room
    · have E2 : Hid (lessR r c xs room ds = (pz, 2)) := E.out.trans (if_pos hr)
      clear E
      rcases (show room < 1 ∨ (1 ≤ room ∧ r < room) by omega) with h1 | ⟨h0, h1⟩
      all_goals
        clear hr
        go_enter Try.func19, Try.ntmps19
        go_wp2_with fail
        refine C.out.mono ?_
        rintro e w1 ⟨rfl, hB1⟩
        have hP := HP.out.later hB1
        have hQ := HQ.out.later hB1
        obtain ⟨c0, c1, c2, f0, f1, f2⟩ := hP.at
        obtain ⟨d0, d1, d2, g0, g1, g2⟩ := hQ.at
        have HQ1 := Lib.hid hQ
        have HB1 : Hid (Below w.heap.size w w1) := HB.out.trans (hB1.mono HB.out.size)
        clear hB1 HB HP HQ C hP hQ
        go_wp2
        refine ret_pool rfl rfl rfl (HQ1.out.store _ _ _) rfl ?_
        rw [E2.out]
        exact ppost_none (below_store HB1.out (by omega) _ _ _)
    · have E2 : Hid (lessR r c xs room ds = outR room c xs ds) := E.out.trans (if_neg hr)
      have r1 : 1 ≤ room := by omega
      have r2 : room ≤ r := by omega
      have r3 : decide (room < 1) = false := decide_eq_false (by omega)
      have r4 : decide (r < room) = false := decide_eq_false (by omega)
      have hxl := pr_len HH.out
      clear E hr
      go_enter Try.func19, Try.ntmps19
      go_wp2_with fail
      refine C.out.mono ?_
      rintro e w1 ⟨rfl, hB1⟩
      have hP := HP.out.later hB1
      have hQ := HQ.out.later hB1
      obtain ⟨c0, c1, c2, f0, f1, f2⟩ := hP.at
      have HP1 := Lib.hid hP
      have HQ1 := Lib.hid hQ
      have hs1 : w.heap.size + 2 ≤ w1.heap.size := by have := Bs.lt hQ; omega
      have HB1 : Hid (Below w.heap.size w w1) := HB.out.trans (hB1.mono HB.out.size)
      have HX1 := Lib.hid (HX.out.later HB1.out)
      clear hB1 HB HP HQ C hP hQ
      have HPa := (HP1.out.alloc (.cells #[] 3)).at.2.2.1
      go_wp2_with (at_builtin; refine wpList_copyA rfl _ _ rfl A xs.length ca xs rfl rfl rfl HX1.out (by omega) ?_)
      intro v w2 hO hB2
      obtain ⟨R, cr, rfl⟩ := hO.shape
      have HP3 := Lib.hid (HP1.out.later hB2)
      have HQ3 := Lib.hid (HQ1.out.later hB2)
      have HO3 := Lib.hid (hO.lower hs1)
      have HB3 : Hid (Below w.heap.size w w2) := HB1.out.trans (hB2.mono HB1.out.size)
      clear hB2 hO HP1 HQ1 c0 c1 c2 f0 f1 f2 HPa
      go_wp2_with fail
      go_loopw [8, 9] (fun hv iv wr => ∃ (k : Nat) (ys : List Int), k ≤ ds.length ∧ ys.length ≤ 400 ∧ iv = .int .i64 k ∧ PB wr w.heap.size r c (.slice A xs.length ca) ∧ PB wr (w.heap.size + 1) 0 0 (.slice none 0 0) ∧ OI wr (w.heap.size + 2) hv ys ∧ outR room c xs ds = outR room c ys (ds.drop k) ∧ Below w.heap.size w wr) (fun _ iv _ => ds.length - (intOf iv).toNat)
      case atStart => exact ⟨0, xs, by omega, hxl, rfl, HP3.out, HQ3.out, HO3.out, rfl, HB3.out⟩
      case round =>
        obtain ⟨k, ys, hk, hyl, rfl, hP, hQ, hO, hE, hB⟩ := hrel
        clear HP3 HB3 HQ3 HO3
        obtain ⟨R, cr, rfl⟩ := hO.shape
        obtain ⟨c0, c1, c2, f0, f1, f2⟩ := hP.at
        obtain ⟨d0, d1, d2, g0, g1, g2⟩ := hQ.at
        have HPr := Lib.hid hP
        have HQr := Lib.hid hQ
        have HOr := Lib.hid hO
        have HE := Lib.hid hE
        have HBr := Lib.hid hB
        clear hP hO hE hB hQ
        by_cases hlen : (ys.length : Int) ≤ room
        · have EG := Lib.hid (HE.out.trans (outR_end hlen))
          clear HE
          go_wp2
          refine ret_pool rfl rfl rfl (HQr.out.store _ _ _) rfl ?_
          rw [E2.out, EG.out]
          exact ⟨_, rfl, (HOr.out.lower (by omega)).store HQr.out _ _ _, below_store HBr.out (by omega) _ _ _⟩
        · by_cases hke : k = ds.length
          · have EG : Hid (outR room c xs ds = (pz, 7)) := HE.out.trans (by rw [hke, List.drop_eq_nil_of_le (Nat.le_refl _), outR_none hlen])
            subst hke
            clear HE
            go_wp2
            refine ret_pool rfl rfl rfl (HQr.out.store _ _ _) rfl ?_
            rw [E2.out, EG.out]
            exact ppost_none (below_store HBr.out (by omega) _ _ _)
          · have hk2 : k < ds.length := by omega
            have EG := Lib.hid (HE.out.trans (outR_at hlen hk2))
            obtain ⟨b2, off2, rfl, hbl, hcd⟩ := (HD.out.later HBr.out).il.at (by omega)
            have hc2 := hcd k hk2
            obtain ⟨d, hdd⟩ : ∃ d, ds.getD k 0 = d := ⟨_, rfl⟩
            rw [hdd] at hc2 EG
            have t1 : ((k : Int) == (ds.length : Int)) = false := by rw [beq_eq_false_iff_ne]; omega
            have i1 : (k : Int) < (ds.length : Int) := by omega
            clear hdd hcd HE hke
            by_cases hg : d < 0 ∨ (ys.length : Int) ≤ d
            · rw [if_pos hg] at EG
              rcases (show d < 0 ∨ (0 ≤ d ∧ (ys.length : Int) ≤ d) by omega) with h1 | ⟨h0, h1⟩
              all_goals
                clear hg
                go_wp2
                refine ret_pool rfl rfl rfl (HQr.out.store _ _ _) rfl ?_
                rw [E2.out, EG.out]
                exact ppost_none (below_store HBr.out (by omega) _ _ _)
            · rw [if_neg hg] at EG
              obtain ⟨e, rfl⟩ : ∃ e : Nat, d = e := ⟨d.toNat, by omega⟩
              rw [Int.toNat_natCast, ← erT_all] at EG
              have he : e < ys.length := by omega
              have t2 : decide ((e : Int) < 0) = false := decide_eq_false (by omega)
              have t3 : decide ((ys.length : Int) ≤ (e : Int)) = false := decide_eq_false (by omega)
              have t4 : decide (ys.length ≤ e) = false := decide_eq_false (by omega)
              have t5 : decide (room < (ys.length : Int)) = true := decide_eq_true (by omega)
              have EH := Lib.hid (erT_hit he)
              have EN : Hid (∀ j, j < ys.length → j ≠ e → erT ys e (j + 1) = erT ys e j ++ [ys.getD j 0]) := fun j h1 h2 => erT_not h1 h2
              have EL : Hid (∀ j, (erT ys e j).length ≤ 400) := fun j => Nat.le_trans (erT_len ys e j) hyl
              have hk1 : k + 1 ≤ ds.length := hk2
              clear hg
              obtain ⟨wa, hwa⟩ : ∃ wa, wa = wr := ⟨_, rfl⟩
              subst hwa
              have e0 : erT ys e 0 = [] := by unfold erT; simp
              go_wp2_with fail
              go_loopw [10, 58] (fun nv iv wr => ∃ j : Nat, j ≤ ys.length ∧ iv = .int .i64 j ∧ OI wr wa.heap.size nv (erT ys e j) ∧ Below wa.heap.size wa wr) (fun _ iv _ => ys.length - (intOf iv).toNat)
              case atStart => exact ⟨0, by omega, rfl, by rw [e0]; exact OI.nil _ _, Below.refl _ _⟩
              case round =>
                obtain ⟨j, hj, rfl, hO, hB⟩ := hrel
                obtain ⟨S, cs, rfl⟩ := hO.shape
                have HOj := Lib.hid hO
                have HBj := Lib.hid hB
                have hsz := hB.size
                by_cases hlt : j < ys.length
                · obtain ⟨R', cr', e', hI⟩ := (HOr.out.later hB).ip
                  cases e'
                  obtain ⟨b, off, rfl, _, hcl⟩ := hI.il.at (by omega)
                  have hcx := hcl j hlt
                  have hcd := (hB.cell (p := ⟨b2, off2 + k, none⟩) hbl).trans hc2
                  have j1 : (j : Int) < (ys.length : Int) := by omega
                  have hj1 : j + 1 ≤ ys.length := hlt
                  have hel := EL.out j
                  have EN2 := Lib.hid (EN.out j hlt)
                  obtain ⟨y, hy⟩ : ∃ y, ys.getD j 0 = y := ⟨_, rfl⟩
                  rw [hy] at hcx EN2
                  clear hcl hI hO hB hy c0 c1 c2 f0 f1 f2 d0 d1 d2 g0 g1 g2 hc2
                  by_cases hje : j = e
                  · subst hje
                    have EH2 := EH.out
                    have u1 : ((j : Int) != (j : Int)) = false := by simp
                    go_wp2
                    go_roundw
                    case rel => exact ⟨j + 1, hj1, by go_num, by rw [EH.out]; exact HOj.out, HBj.out⟩
                    case measure => simp [intOf]; omega
                  · have EN3 := Lib.hid (EN2.out hje)
                    have u1 : ((j : Int) != (e : Int)) = true := by rw [bne_iff_ne]; omega
                    clear hje EN2
                    obtain ⟨zs, hzs⟩ : ∃ zs, erT ys e j = zs := ⟨_, rfl⟩
                    rw [hzs] at HOj EN3 hel
                    rw [hzs]
                    clear hzs
                    go_wp2_with (at_builtin; refine wpList_push rfl _ _ rfl wa.heap.size (.slice S zs.length cs) zs y rfl HOj.out rfl (by omega) hsz HBj.out ?_)
                    intro g cap w2 ho2 hB2 _
                    have HO2 := Lib.hid ho2
                    have HB2 := Lib.hid hB2
                    clear ho2 hB2 HOj HBj
                    go_wp2
                    go_roundw
                    case rel => exact ⟨j + 1, hj1, by go_num, by rw [EN3.out]; exact HO2.out, HB2.out⟩
                    case measure => simp [intOf]; omega
                · obtain rfl : j = ys.length := by omega
                  clear hO hB EN EH
                  have hl2 := EL.out ys.length
                  have HP4 := Lib.hid (HPr.out.later HBj.out)
                  have HQ4 := Lib.hid (HQr.out.later HBj.out)
                  have HB4 : Hid (Below w.heap.size w wr) := HBr.out.trans (HBj.out.mono HBr.out.size)
                  have hge : w.heap.size + 2 ≤ wa.heap.size := by have := Bs.lt HQr.out; omega
                  have HO4 := Lib.hid (HOj.out.lower hge)
                  go_wp2
                  go_roundw
                  case rel => exact ⟨k + 1, _, hk1, hl2, by go_num, HP4.out, HQ4.out, HO4.out, EG.out, HB4.out⟩
                  case measure => simp [intOf]; omega
  · have e1 : prB r c xs = false := decide_eq_false h
    have E : Hid (lessR r c xs room ds = (pz, 1)) := if_neg h
    rw [e1] at C
    clear h e1
    unfold pv at *
    go_enter Try.func19, Try.ntmps19
    go_wp2_with fail
    refine C.out.mono ?_
    rintro e w1 ⟨rfl, hB1⟩
    have hQ := HQ.out.later hB1
    obtain ⟨d0, d1, d2, g0, g1, g2⟩ := hQ.at
    have HQ1 := Lib.hid hQ
    have HB1 : Hid (Below w.heap.size w w1) := HB.out.trans (hB1.mono HB.out.size)
    clear hB1 HB HP HQ C hQ
    go_wp2
    refine ret_pool rfl rfl rfl (HQ1.out.store _ _ _) rfl ?_
    rw [E.out]
    exact ppost_none (below_store HB1.out (by omega) _ _ _)
end Go.Proofs.Ytimeimagncechaa
