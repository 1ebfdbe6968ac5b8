/- lotdrawerkeep.rows: all choices, each looked at. -/
import Derived.Test.YtimeimagncechaaZe
import Derived.Test.YtimeimagncechaaZr
namespace Go.Proofs.Ytimeimagncechaa
open Go.RowKit Go.Deep Go.Maps

/-- 'out = append(out, y)', with where it lies. -/
theorem wpList_pushL {w0 wr : World} {ops : Array Oper} {rest : List Oper} {o : Oper} {a : Act} {Q : Exit → Act → World → Prop} (hgd : o.guard = none) (s x : Operand)
    (ho : o.op = .call { callee := .builtin .append, args := #[s, x], argTypes := #[22, 22] }) (B : Nat) (v : Value) (xs : List Int) (y : Int) (hs : a.eval s = v) (hown : OI wr B v xs)
    (hx : a.eval x = .slice (some ⟨wr.heap.size, 0, none⟩) 1 1) (hb : xs.length < 17592186044416) (hB : B ≤ wr.heap.size) (hbel : Below B w0 wr)
    (h : ∀ g cap w', OI w' B (.slice (some ⟨g, 0, none⟩) (xs.length + 1) cap) (xs ++ [y]) → Below B w0 w' → (wr.alloc (.cells #[.int .i64 y] 3)).grownBy w' v.ownBlock → (v.ownBlock = some g ∨ g = wr.heap.size + 1) → g < w'.heap.size → wpList Try.prog ops Q rest (a.put o.dst (.slice (some ⟨g, 0, none⟩) (xs.length + 1) cap)) w') :
    wpList Try.prog ops Q (o :: rest) a (wr.alloc (.cells #[.int .i64 y] 3)) := by
  obtain ⟨i0, hi0, hz0, hz1, hz2⟩ := info_parts info_int
  refine wpList_append_lies _ hgd s x 22 ho B 3 i0 (.int .i64 0) 1 8 Try.underlying22 hi0 hz0 hz1 hz2 rfl (by decide) v xs.length (ivs xs) hs (World.ownsRow.alloc hown _) ⟨wr.heap.size, 0, none⟩ 1 1 [.int .i64 y] hx rfl ?c1 ?c2 (by omega) ?c3 ?c4 ?c5 (wr.heap.size + 1) (by simp) ?_
  case c1 =>
    intro j u hj
    match j, hj with
    | 0, hj => simp at hj; subst hj; simp [Addr.add]
  case c2 => intro u hu; simp at hu; subst hu; rfl
  case c3 => simp only [maxLen]; omega
  case c4 => omega
  case c5 => simp; omega
  intro g cap w' h1 h2 h3 h4
  refine h g cap w' ?_ ?_ h2 h3 h4
  · unfold OI
    rw [ivs_append, List.length_append]
    exact h1
  · exact (hbel.alloc hB _).grown h2 (by simp; omega) (fun k hk => (World.ownsRow.lt hown k hk).1)
theorem OI.blk {w : World} {B : Nat} {v : Value} {xs : List Int} (h : OI w B v xs) {g : Nat} (hg : v.ownBlock = some g) : g < w.heap.size := (World.ownsRow.lt h g hg).2
def apartV (a b : Value) : Prop := ∀ g, a.ownBlock = some g → b.ownBlock ≠ some g
theorem apartV.kept {w w' : World} {B : Nat} {a b : Value} {xs : List Int} (h : apartV a b) (ho : OI w B b xs) (hg : w.grownBy w' a.ownBlock) : OI w' B b xs := by
  refine ho.kept hg ?_
  cases e : b.ownBlock with
  | none => exact .inl rfl
  | some g =>
    refine .inr (fun e2 => ?_)
    exact h g e2.symm e
theorem apartV.symm {a b : Value} (h : apartV a b) : apartV b a := fun g h1 h2 => h g h2 h1

set_option maxRecDepth 100000 in
set_option maxHeartbeats 4000000 in
theorem rows_any (room n fid : Nat) (caps : Array Value) (P : Nat → Prop) (Inv : Nat → World → Prop) (w : World) (h1 : 1 ≤ room) (h2 : room ≤ n) (h3 : n ≤ 6)
    (hen : ∀ (args : Array Value) (w : World), (callFunc fid args).run Try.prog w = .ok (.enter fid args) w) (hP : ∀ k, P k → k < w.heap.size) (hI0 : Inv 0 w) (hst : ∀ k a b, Inv k a → Below a.heap.size a b → Inv k b)
    (hlook : ∀ k A ca a, k < fc n → Inv k a → IP a A ca (inN (resN room n k)) → Calls Try.prog fid (#[.agg #[.int .i64 room, .int .i64 n, .slice A (inN (resN room n k)).length ca]] ++ caps) a fun e b => e = .returned (.tuple #[]) ∧ Inv (k + 1) b ∧ Kp P a b) :
    Calls Try.prog 21 #[.int .i64 room, .int .i64 n, .func (.func fid) #[] caps] w fun e b => e = .returned (.bool true) ∧ Inv (fc n) b ∧ Kp P w b := by
  have HP := Lib.hid hP
  have HI0 := Lib.hid hI0
  have HST := Lib.hid hst
  have HLK := Lib.hid hlook
  clear hP hI0 hst hlook
  go_enter Try.func21, Try.ntmps21
  go_wp2_with fail
  go_loopw [7, 8, 9, 15] (fun bv lv av iv wr => ∃ k : Nat, k ≤ n ∧ OI wr w.heap.size bv (inN (basN 0 k)) ∧ OI wr w.heap.size lv (inN (List.range k)) ∧ av = .int .i64 (fc k : Nat) ∧ iv = .int .i64 k ∧ apartV bv lv ∧ Below w.heap.size w wr) (fun _ _ _ iv _ => n - (intOf iv).toNat)
  case atStart => exact ⟨0, by omega, OI.nil _ _, OI.nil _ _, rfl, rfl, (fun g h => by cases h), Below.refl _ _⟩
  case round =>
    obtain ⟨k, hk, hO1, hO2, rfl, rfl, hA, hB⟩ := hrel
    obtain ⟨V1, c1, rfl⟩ := hO1.shape
    obtain ⟨V2, c2, rfl⟩ := hO2.shape
    have HO1 := Lib.hid hO1
    have HO2 := Lib.hid hO2
    have HA := Lib.hid hA
    have HB := Lib.hid hB
    have hsz := hB.size
    have hfk := fc_le k (by omega)
    clear hO1 hO2 hA hB
    by_cases hlt : k < n
    · have ef : fc (k + 1) = fc k * (k + 1) := rfl
      have hfk2 := fc_le (k + 1) (by omega)
      have EF : (fc k : Int) * ((k : Int) + 1) = (fc (k + 1) : Nat) := by rw [ef]; push_cast; rfl
      have hl1 : Hid ((inN (basN 0 k)).length < 17592186044416) := by show _ < _; rw [inN_len, basN_len]; omega
      have hl2 : Hid ((inN (List.range k)).length < 17592186044416) := by show _ < _; rw [inN_len, List.length_range]; omega
      have E1 : Hid (inN (basN 0 (k + 1)) = inN (basN 0 k) ++ [(k : Int) + 1]) := by
        show _ = _
        rw [basN_snoc, inN_append]; simp [inN]
      have E2 : Hid (inN (List.range (k + 1)) = inN (List.range k) ++ [(k : Int)]) := by
        show _ = _
        rw [List.range_succ, inN_append]; rfl
      obtain ⟨f2, hf2⟩ : ∃ f2, fc (k + 1) = f2 := ⟨_, rfl⟩
      have HF2 := Lib.hid hf2
      rw [hf2] at EF hfk2
      generalize fc k = f1 at *
      generalize inN (basN 0 k) = bl at *
      generalize inN (List.range k) = rl at *
      have hk1 : k + 1 ≤ n := hlt
      clear ef hf2
      go_wp2_with (first
        | (at_builtin; refine wpList_pushL rfl _ _ rfl w.heap.size (.slice V1 bl.length c1) bl ((k : Int) + 1) rfl HO1.out rfl hl1.out hsz HB.out ?_)
        | fail)
      intro g1 cap1 w2 ho1 hB2 hg1 hloc1 hlt1
      rw [← E1.out] at ho1
      have hO2 := HA.out.kept (HO2.out.alloc _) hg1
      have HB2 := Lib.hid hB2
      have HO3 := Lib.hid ho1
      have HO4 := Lib.hid hO2
      have hsz2 := hB2.size
      have HA2 : Hid (apartV (.slice (some ⟨g1, 0, none⟩) (bl.length + 1) cap1) (.slice V2 rl.length c2)) := by
        intro g hg hg2
        simp only [Value.ownBlock] at hg
        injection hg with hg
        subst hg
        rcases hloc1 with h | h
        · exact HA.out _ h hg2
        · have := HO2.out.blk hg2; omega
      clear ho1 hB2 hg1 hO2 HO1 hloc1
      go_wp2_with (first
        | (at_builtin; refine wpList_pushL rfl _ _ rfl w.heap.size (.slice V2 rl.length c2) rl (k : Int) rfl HO4.out rfl hl2.out hsz2 HB2.out ?_)
        | fail)
      intro g2 cap2 w3 ho2 hB3 hg2 hloc2 hlt2
      rw [← E2.out] at ho2
      have HO5 := Lib.hid (HA2.out.symm.kept (HO3.out.alloc _) hg2)
      have HO6 := Lib.hid ho2
      have HB3 := Lib.hid hB3
      have HA3 : Hid (apartV (.slice (some ⟨g1, 0, none⟩) (bl.length + 1) cap1) (.slice (some ⟨g2, 0, none⟩) (rl.length + 1) cap2)) := by
        intro g hg hgg
        simp only [Value.ownBlock] at hg hgg
        injection hg with hg
        injection hgg with hgg
        subst hg
        rcases hloc2 with h | h
        · exact HA2.out g1 rfl (by rw [h, hgg])
        · omega
      clear ho2 hB3 hg2 hloc2 HB2 HO4 HO3 HA2 HA hlt2 hlt1
      go_wp2
      go_roundw
      case rel => exact ⟨k + 1, hk1, HO5.out, HO6.out, by rw [HF2.out], by go_num, HA3.out, HB3.out⟩
      case measure => simp [intOf]; omega
    · obtain rfl : k = n := by omega
      obtain ⟨wa, hwa⟩ : ∃ wa, wa = wr := ⟨_, rfl⟩
      subst hwa
      obtain ⟨N, hN⟩ : ∃ N, fc k = N := ⟨_, rfl⟩
      have HN := Lib.hid hN
      rw [hN] at hfk ⊢
      have HK0 : Hid (Kp P w wa) := Kp.of_below HB.out
      have HI1 : Hid (Inv 0 wa) := HST.out _ _ _ HI0.out HB.out
      clear hN HA HB
      go_wp2_with fail
      go_loopw [33] (fun iv wr => ∃ x : Nat, x ≤ N ∧ iv = .int .i64 x ∧ OI wr w.heap.size (.slice V1 (inN (basN 0 k)).length c1) (inN (basN 0 k)) ∧ OI wr w.heap.size (.slice V2 (inN (List.range k)).length c2) (inN (List.range k)) ∧ Inv x wr ∧ Kp P w wr) (fun iv _ => N - (intOf iv).toNat)
      case atStart => exact ⟨0, by omega, rfl, HO1.out, HO2.out, HI1.out, HK0.out⟩
      case round =>
        obtain ⟨x, hx, rfl, hO1, hO2, hI, hK⟩ := hrel
        clear HO1 HO2 HI1 HK0
        have HO1 := Lib.hid hO1
        have HO2 := Lib.hid hO2
        have HI := Lib.hid hI
        have HK := Lib.hid hK
        clear hO1 hO2 hI hK
        by_cases hlt : x < N
        · obtain ⟨_, _, e, hb1⟩ := HO1.out.ip
          cases e
          have CM := Lib.hid (mixed_any x V1 c1 (basN 0 k) wr hb1 (fun b hb => by have := basN_pos k 0 b hb; omega) (by omega) (by rw [basN_len]; omega))
          have hx1 : x + 1 ≤ N := hlt
          rw [← inN_len (basN 0 k)] at CM
          clear hb1
          go_wp2_with fail
          refine CM.out.mono ?_
          rintro e w2 ⟨v, rfl, hO, hb⟩
          obtain ⟨V3, c3, rfl⟩ := hO.shape
          obtain ⟨_, _, e, hd1⟩ := hO.ip
          cases e
          obtain ⟨_, _, e, hl1⟩ := (HO2.out.later hb).ip
          cases e
          have CA := Lib.hid (poolAll_any room V2 c2 (inN (List.range k)) V3 c3 (inN (mixN x (basN 0 k))) w2 hl1 hd1)
          rw [all_inN h1 (by omega) (by omega)] at CA
          have HO3 := Lib.hid (HO1.out.later hb)
          have HO4 := Lib.hid (HO2.out.later hb)
          have HI3 := Lib.hid (HST.out _ _ _ HI.out hb)
          have HK3 := Lib.hid (HK.out.trans (Kp.of_below hb))
          clear hO hb hd1 hl1 CM HO1 HO2 HI HK
          go_wp2_with fail
          refine CA.out.mono ?_
          rintro e w3 ⟨v, rfl, hO, hb⟩
          obtain ⟨R, cr, rfl⟩ := hO.shape
          obtain ⟨_, _, e, hr1⟩ := hO.ip
          cases e
          have b4 : Below w3.heap.size w3 (w3.alloc (.cells #[.int .i64 room, .int .i64 k, .slice R (inN (resN room k x)).length cr] 24)) := (Below.refl _ _).alloc (Nat.le_refl _) _
          have hb2 := hb.trans (b4.mono hb.size)
          have HO5 := Lib.hid (HO3.out.later hb2)
          have HO6 := Lib.hid (HO4.out.later hb2)
          have HI5 := HST.out _ _ _ HI3.out hb2
          have HK5 := Lib.hid (HK3.out.trans (Kp.of_below hb2))
          have CL := Lib.hid (HLK.out x R cr _ (by rw [HN.out]; exact hlt) HI5 (hr1.later b4))
          clear hO hb b4 hb2 hr1 CA HO3 HO4 HI3 HI5 HK3
          unfold pv
          go_wp2_with fail
          refine CL.out.mono ?_
          rintro e w4 ⟨rfl, hI6, hK6⟩
          have HO7 := Lib.hid (HO5.out.kp hK6 HP.out)
          have HO8 := Lib.hid (HO6.out.kp hK6 HP.out)
          have HI7 := Lib.hid hI6
          have HK7 := Lib.hid (HK5.out.trans hK6)
          clear hI6 hK6 CL HO5 HO6 HK5
          go_wp2
          go_roundw
          case rel => exact ⟨x + 1, hx1, by go_num, HO7.out, HO8.out, HI7.out, HK7.out⟩
          case measure => simp [intOf]; omega
        · obtain rfl : x = N := by omega
          go_wp2
          go_ret
          exact ⟨rfl, by rw [HN.out]; exact HI.out, HK.out⟩
end Go.Proofs.Ytimeimagncechaa
