/- lotdrawerref.AWords and lotdrawerlaw.same. -/
import Derived.Test.YtfhbnolppahfhaaId
namespace Go.Proofs.Ytfhbnolppahfhaa
open Go.RowKit Go.Deep

theorem words_le {X k K : Nat} (hK : K = 2 * k) (h : X < Bh ^ K) : (words X).length ≤ k := by
  refine (words_len _ _).2 ?_
  rw [Bw_Bh, ← hK]
  exact h
def slLen : Value → Nat | .slice _ n _ => n | _ => 0

theorem words_take_succ {X k : Nat} (h : k < (words X).length) : (words X).take (k + 1) = (words X).take k ++ [X / Bw ^ k % Bw] := by
  rw [List.take_succ_eq_append_getElem h]
  congr 2
  have key : ∀ (X k : Nat), k < (words X).length → (words X)[k]? = some (X / Bw ^ k % Bw) := by
    intro X k
    induction k generalizing X with
    | zero =>
      intro h
      by_cases h0 : X = 0
      · subst h0; simp [words_zero] at h
      · rw [words_pos h0]; simp
    | succ k ih =>
      intro h
      by_cases h0 : X = 0
      · subst h0; simp [words_zero] at h
      · rw [words_pos h0] at h ⊢
        simp only [List.length_cons] at h
        rw [List.getElem?_cons_succ, ih (X / Bw) (by omega), Nat.pow_succ, Nat.div_div_eq_div_mul, Nat.mul_comm]
  have := key X k h
  rw [List.getElem?_eq_getElem h] at this
  injection this
theorem words_more {X k : Nat} : k < (words X).length ↔ 0 < X / Bw ^ k := by
  have h := words_len X k
  constructor
  · intro hk
    have : ¬ X < Bw ^ k := fun hx => by have := h.2 hx; omega
    exact Nat.div_pos (by omega) (Nat.pow_pos Bw_pos)
  · intro hp
    rcases Nat.lt_or_ge k (words X).length with hk | hk
    · exact hk
    · have := h.1 hk
      rw [Nat.div_eq_of_lt this] at hp; omega

/-- What stands in the loop of AWords: k words are told. -/
def AW (w : World) (gm gy X k : Nat) (v : Value) (wr : World) : Prop :=
  k ≤ (words X).length ∧ slLen v = k ∧ wr.ownsRow w.heap.size 23 1 v k (cellsOf ((words X).take k)) ∧ IsI wr gy ((X / Bw ^ k : Nat) : Int) ∧ IsI wr gm ((18446744073709551615 : Nat) : Int) ∧ Below w.heap.size w wr

/-- An own row of words is no header. -/
theorem own_far {w : World} {base g k : Nat} {v : Value} {xs : List Value} (h : w.ownsRow base 23 1 v k xs) (hg : IsH w g) : v.ownBlock ≠ some g := by
  obtain ⟨_, _, _, _, hd⟩ := hg
  rcases h.2 with ⟨rfl, _⟩ | ⟨g', cap, cur, rfl, _, hh, _⟩
  · simp [Value.ownBlock]
  · intro e
    have : g' = g := by simpa [Value.ownBlock] using e
    subst this
    unfold Hd at hd
    rw [hh] at hd
    injection hd with hd
    injection hd with _ ht
    exact absurd ht (by decide)
/-- Digits stay as they are while an own row of words turns. -/
theorem Wd_row {w w' : World} {A : Option Addr} {ds : List Nat} {base k : Nat} {v : Value} {xs : List Nat} (h : H.Wd w A ds) (ho : w.ownsRow base 23 1 v k (cellsOf xs)) (hw : w.grownBy w' v.ownBlock) : H.Wd w' A ds :=
  ⟨h.1, fun h0 => by
    obtain ⟨b, off, rfl, ⟨hlt, cs, fr, hcs⟩, hc⟩ := h.2 h0
    have hne : some b ≠ v.ownBlock := by
      rcases ho.2 with ⟨rfl, _⟩ | ⟨g', cap, cur, rfl, _, hh, _⟩
      · simp [Value.ownBlock]
      · intro e
        have : b = g' := by simpa [Value.ownBlock] using e
        subst this
        rw [hcs] at hh
        injection hh with hh
        injection hh with _ ht
        exact absurd ht (by decide)
    exact ⟨b, off, rfl, ⟨Nat.lt_of_lt_of_le hlt hw.size, cs, fr, (hw.block b hlt hne).trans hcs⟩, fun j hj => (World.cell?_of_block (w := w) (w' := w') (a := ⟨b, off + j, none⟩) (hw.block b hlt hne)).trans (hc j hj)⟩⟩
/-- An Int stays as it is while an own row of words turns. -/
theorem IsI.row {w w' : World} {g : Nat} {z : Int} {base k : Nat} {v : Value} {xs : List Nat} (h : IsI w g z) (ho : w.ownsRow base 23 1 v k (cellsOf xs)) (hw : w.grownBy w' v.ownBlock) : IsI w' g z := by
  have hne := own_far ho h.hd
  obtain ⟨A, c, h1, h2, h3⟩ := h
  exact ⟨A, c, (hw.block g h1.lt (fun e => hne e.symm)).trans h1, Wd_row h2 ho hw, h3⟩
/-- .. and an own row while a header turns. -/
theorem own_only {w w' : World} {g base k : Nat} {v : Value} {xs : List Value} (h : w.ownsRow base 23 1 v k xs) (hg : IsH w g) (hw : w.grownBy w' (some g)) : w'.ownsRow base 23 1 v k xs := by
  have hne := own_far h hg
  refine ⟨h.1, ?_⟩
  rcases h.2 with h0 | ⟨g', cap, cur, rfl, hb, hh, r⟩
  · exact .inl h0
  · refine .inr ⟨g', cap, cur, rfl, hb, ?_, r⟩
    have hlt : g' < w.heap.size := lt_of_block hh
    exact (hw.block g' hlt (fun e => hne (by rw [← e]; rfl))).trans hh
theorem own_below {w w' : World} {base k : Nat} {v : Value} {xs : List Value} (h : w.ownsRow base 23 1 v k xs) (hw : Below w.heap.size w w') : w'.ownsRow base 23 1 v k xs := by
  refine ⟨h.1, ?_⟩
  rcases h.2 with h0 | ⟨g', cap, cur, rfl, hb, hh, r⟩
  · exact .inl h0
  · exact .inr ⟨g', cap, cur, rfl, hb, (hw.block g' (lt_of_block hh)).trans hh, r⟩
theorem Wd_of_row {w : World} {base k : Nat} {A : Option Addr} {n cap : Nat} {xs : List Nat} (hs : Sm xs) (h : w.ownsRow base 23 1 (.slice A n cap) k (cellsOf xs)) : Wd w A xs :=
  ⟨hs, fun h0 => by
    have hl := h.1
    rw [cellsOf_len, Nat.mul_one] at hl
    rcases h.2 with ⟨_, h1⟩ | ⟨g', cap', cur, hv, _, hh, hnc, _, hsz, htk⟩
    · omega
    · simp at hv
      obtain ⟨rfl, rfl, rfl⟩ := hv
      refine ⟨g', 0, rfl, lt_of_block hh, fun j hj => ?_⟩
      rw [Nat.zero_add, cell_of_row w g' j _ 23 (0, 0) hh]
      have e : cur[j]? = (cellsOf xs)[j]? := by
        rw [← htk, List.getElem?_take, if_pos (by omega), Array.getElem?_toList]
      rw [e, cellsOf_at hj]⟩

set_option maxRecDepth 100000 in
set_option maxHeartbeats 2000000 in
theorem awords_any (bx X : Nat) (w : World) (hx : IsI w bx (X : Int)) (sx : X < Bh ^ 100000) :
    Calls Try.prog 37 #[.pointer (some ⟨bx, 0, none⟩)] w fun e w' => ∃ R c, e = .returned (.tuple #[.slice R (fitL X).length c, .int .i64 (fitE X)]) ∧ Wd w' R (fitL X) ∧ Below w.heap.size w w' := by
  obtain ⟨i0, hi0, hz0, hz1, hz2⟩ := info_parts Try.info23
  have SX := Lib.hid sx
  have HX := Lib.hid hx
  have hbx := hx.lt
  have C1 := Lib.hid (isetU_any w.heap.size 18446744073709551615 (w.alloc (.cells #[.bool false, .slice none 0 0] 35)) (IsI.new w).hd (by decide))
  clear hx sx
  go_enter Try.func37, Try.ntmps37
  go_wp2_with fail
  refine C1.out.mono ?_
  rintro e w1 ⟨rfl, h1, h2⟩
  have B1 : Hid (Below w.heap.size w w1) := below_grown ((Below.refl _ _).alloc (Nat.le_refl _) _) h2 (by simp) (Nat.le_refl _)
  have M1 := Lib.hid h1
  have lm := h1.lt
  have X1 : Hid (IsI w1 bx (X : Int)) := HX.out.below B1.out
  have C2 := Lib.hid (iset_any w1.heap.size bx (X : Int) (w1.alloc (.cells #[.bool false, .slice none 0 0] 35)) (IsI.new w1).hd (X1.out.below ((Below.refl _ _).alloc (Nat.le_refl _) _)) (by rw [Int.natAbs_natCast]; exact pow_up (a := 100000) (b := 900000) SX.out (by decide)))
  clear h1 h2 C1
  go_wp2_with fail
  refine C2.out.mono ?_
  rintro e w2 ⟨rfl, h3, h4⟩
  have B2 : Hid (Below w.heap.size w w2) := below_grown (B1.out.alloc B1.out.size _) h4 (by simp; have := B1.out.size; omega) B1.out.size
  have M2 : Hid (IsI w2 w.heap.size ((18446744073709551615 : Nat) : Int)) := (M1.out.below ((Below.refl _ _).alloc (Nat.le_refl _) _)).only (IsI.new w1).hd (by omega) h4
  have Y2 := Lib.hid h3
  have hlen : (words X).length ≤ 50000 := words_le (k := 50000) (K := 100000) rfl SX.out
  have hne : w.heap.size ≠ w1.heap.size := by omega
  have LEN := Lib.hid hlen
  clear h3 h4 C2 X1 M1
  go_wp2_with fail
  go_loopw [4] (fun v wr => ∃ k, AW w w.heap.size w1.heap.size X k v wr) (fun v _ => (words X).length - slLen v)
  case atStart =>
    refine ⟨0, Nat.zero_le _, rfl, World.ownsRow_nil _ _ _ _, ?_, M2.out, B2.out⟩
    rw [Nat.pow_zero, Nat.div_one]
    exact Y2.out
  case round =>
    clear M2 Y2
    obtain ⟨k, hk, hsl, hown, hY, hM, hB⟩ := hrel
    have HSL := Lib.hid hsl
    have HO := Lib.hid hown
    have HY := Lib.hid hY
    have HM := Lib.hid hM
    have HB := Lib.hid hB
    have sY : X / Bw ^ k < Bh ^ 900000 := Nat.lt_of_le_of_lt (Nat.div_le_self _ _) (pow_up (a := 100000) (b := 900000) SX.out (by decide))
    have SY := Lib.hid sY
    have CS := isign_any w1.heap.size _ wr hY (by rw [Int.natAbs_natCast]; exact Nat.lt_of_le_of_lt (Nat.div_le_self _ _) SX.out)
    clear hsl hown hY hM hB sY
    by_cases hlt : k < (words X).length
    · have hp := words_more.1 hlt
      rw [Int.sign_eq_one_of_pos (by omega)] at CS
      have HCS := Lib.hid CS
      clear CS hp
      go_wp2_with fail
      refine HCS.out.mono ?_
      rintro e w' ⟨rfl, rfl⟩
      have hAl : Below wr.heap.size wr (wr.alloc (.cells #[.bool false, .slice none 0 0] 35)) := (Below.refl _ _).alloc (Nat.le_refl _) _
      have C3 := iand_any wr.heap.size w1.heap.size w.heap.size (X / Bw ^ k) 18446744073709551615 _ (IsI.new wr).hd (HY.out.below hAl) (HM.out.below hAl) SY.out (pow_up (a := 2) (b := 900000) (by decide) (by decide))
      rw [show (18446744073709551615 : Nat) = 2 ^ 64 - 1 from rfl, Nat.and_two_pow_sub_one_eq_mod, show (2 : Nat) ^ 64 = Bw from rfl] at C3
      have HC3 := Lib.hid C3
      clear C3 hAl
      go_wp2_with fail
      refine HC3.out.mono ?_
      rintro e w3 ⟨rfl, a1, a2⟩
      have hAl : Below wr.heap.size wr (wr.alloc (.cells #[.bool false, .slice none 0 0] 35)) := (Below.refl _ _).alloc (Nat.le_refl _) _
      have B3 : Hid (Below w.heap.size w w3) := below_grown (HB.out.alloc HB.out.size _) a2 (by simp; have := HB.out.size; omega) HB.out.size
      have ly := HY.out.lt
      have lmm := HM.out.lt
      have Y3 : Hid (IsI w3 w1.heap.size ((X / Bw ^ k : Nat) : Int)) := (HY.out.below hAl).only (IsI.new wr).hd (by omega) a2
      have M3 : Hid (IsI w3 w.heap.size ((18446744073709551615 : Nat) : Int)) := (HM.out.below hAl).only (IsI.new wr).hd (by omega) a2
      have O3 : Hid (w3.ownsRow w.heap.size 23 1 u4 k (cellsOf ((words X).take k))) := own_only (own_below HO.out hAl) (IsI.new wr).hd a2
      have hmod : X / Bw ^ k % Bw < Bw := Nat.mod_lt _ Bw_pos
      have C4 := iuint_any wr.heap.size (X / Bw ^ k % Bw) w3 a1 (pow_up (a := 2) (b := 900000) (by exact hmod) (by decide))
      rw [show X / Bw ^ k % Bw % 18446744073709551616 = X / Bw ^ k % Bw from Nat.mod_eq_of_lt hmod] at C4
      obtain ⟨z, hz⟩ : ∃ z, z = X / Bw ^ k % Bw := ⟨_, rfl⟩
      rw [← hz] at C4
      have HZ := Lib.hid hz
      have HC4 := Lib.hid C4
      clear a1 a2 hAl HC3 C4 hmod hz HO HY HM HCS
      go_wp2_with fail
      refine HC4.out.mono ?_
      rintro e w' ⟨rfl, rfl⟩
      go_wp2_with (at_builtin; refine wpList_append_lies _ rfl (.tmp 18) (.tmp 24) 22 rfl w.heap.size 23 i0 (.int .u64 0) 1 8 Try.underlying22 hi0 hz0 hz1 hz2 rfl (by decide) u4 k (cellsOf ((words X).take k)) rfl (O3.out.alloc _) ⟨w3.heap.size, 0, none⟩ 1 1 [.int .u64 (z : Int)] rfl rfl ?c1 ?c2 (by omega) ?c3 ?c4 ?c5 _ rfl ?_)
      case c1 =>
        intro j u hj
        match j, hj with
        | 0, hj => simp at hj; subst hj; simp [Addr.add]
      case c2 => intro u hu; simp at hu; subst hu; rfl
      case c3 => have := LEN.out; simp only [maxLen]; omega
      case c4 => have := LEN.out; omega
      case c5 => have := B3.out.size; simp; omega
      intro g1 cap w5 hown hgrow _ _
      have hAl : Below w3.heap.size w3 (w3.alloc (.cells #[.int .u64 (z : Int)] 23)) := (Below.refl _ _).alloc (Nat.le_refl _) _
      have O4 := own_below O3.out hAl
      have Y5 : Hid (IsI w5 w1.heap.size ((X / Bw ^ k : Nat) : Int)) := (Y3.out.below hAl).row O4 hgrow
      have M5 : Hid (IsI w5 w.heap.size ((18446744073709551615 : Nat) : Int)) := (M3.out.below hAl).row O4 hgrow
      have hb3 := B3.out.size
      have B5 : Hid (Below w.heap.size w w5) := by
        refine (B3.out.alloc hb3 _).grown hgrow (by simp; omega) ?_
        intro g e
        rcases O4.2 with ⟨h0, _⟩ | ⟨g', cap', cur, h0, hb, _⟩
        · rw [h0] at e; simp [Value.ownBlock] at e
        · rw [h0] at e; simp [Value.ownBlock] at e; omega
      have O5 : Hid (w5.ownsRow w.heap.size 23 1 (.slice (some ⟨g1, 0, none⟩) (k + 1) cap) (k + 1) (cellsOf ((words X).take (k + 1)))) := by
        have e : cellsOf ((words X).take (k + 1)) = cellsOf ((words X).take k) ++ [.int .u64 (z : Int)] := by
          rw [words_take_succ hlt, ← HZ.out]; simp [cellsOf]
        rw [e]; exact hown
      have C6 := irsh_any w1.heap.size w1.heap.size 64 (X / Bw ^ k) w5 Y5.out.hd Y5.out SY.out (by omega)
      rw [show X / Bw ^ k / 2 ^ 64 = X / Bw ^ (k + 1) from by rw [Nat.div_div_eq_div_mul, Nat.pow_succ]; rfl] at C6
      have HC6 := Lib.hid C6
      clear hown hgrow hAl O4 Y3 M3 O3 C6 B3 hb3
      go_wp2_with fail
      refine HC6.out.mono ?_
      rintro e w6 ⟨rfl, j1, j2⟩
      have J1 := Lib.hid j1
      have J2 := Lib.hid j2
      clear j1 j2
      go_wp2_with fail
      go_roundw
      case rel => exact ⟨k + 1, by omega, rfl, own_only O5.out Y5.out.hd J2.out, J1.out, M5.out.only Y5.out.hd hne J2.out, below_grown B5.out J2.out B5.out.size B1.out.size⟩
      case measure =>
        show (words X).length - (k + 1) < (words X).length - slLen u4
        rw [HSL.out]
        omega
    · obtain rfl : (words X).length = k := by omega
      have hq : X / Bw ^ (words X).length = 0 := by
        rcases Nat.eq_zero_or_pos (X / Bw ^ (words X).length) with h | h
        · exact h
        · exact absurd (words_more.2 h) hlt
      rw [hq, show ((0 : Nat) : Int).sign = 0 from rfl] at CS
      have HCS := Lib.hid CS
      have hex : ∃ A cap, u4 = .slice A (words X).length cap := by
        rcases HO.out.2 with ⟨h0, h1⟩ | ⟨g', cap', cur, h0, _⟩
        · exact ⟨none, 0, by rw [h0, h1]⟩
        · exact ⟨_, _, h0⟩
      obtain ⟨A, cap, hv⟩ := hex
      have hown := HO.out
      rw [List.take_of_length_le (Nat.le_refl _), hv] at hown
      have WD := Lib.hid (Wd_of_row (words_sm X) hown)
      rw [hv]
      have hl64 := words_len X 64
      clear hv hown CS hq hlt HSL HO hk
      by_cases hf : X < Bw ^ 64
      · have E1 : Hid (fitL X = words X) := if_pos hf
        have E2 : Hid (fitE X = 0) := if_pos hf
        have hle := hl64.2 hf
        clear hl64 hf SX LEN HX SY HY HM
        go_wp2_with fail
        refine HCS.out.mono ?_
        rintro e w' ⟨rfl, rfl⟩
        go_wp2
        go_ret2
        exact ⟨A, cap, by rw [E1.out, E2.out]; rfl, by rw [E1.out]; exact WD.out, HB.out⟩
      · have E1 : Hid (fitL X = []) := if_neg hf
        have E2 : Hid (fitE X = 4) := if_neg hf
        have hle : 64 < (words X).length := by
          rcases Nat.lt_or_ge 64 (words X).length with h | h
          · exact h
          · exact absurd (hl64.1 h) hf
        clear hl64 hf SX LEN HX SY HY HM
        go_wp2_with fail
        refine HCS.out.mono ?_
        rintro e w' ⟨rfl, rfl⟩
        go_wp2
        go_ret2
        exact ⟨none, 0, by rw [E1.out, E2.out]; rfl, by rw [E1.out]; exact Wd.nil, HB.out⟩

set_option maxHeartbeats 1000000 in
/-- lotdrawerlaw.same: is the slice, with the error, what the number is? -/
theorem same_any (A : Option Addr) (ca : Nat) (xs : List Nat) (e : Int) (bx X : Nat) (w : World) (ha : Wd w A xs) (hl : xs.length ≤ 9223372036854775807) (hx : IsI w bx (X : Int)) (sx : X < Bh ^ 100000) (he : e = fitE X) (hxs : xs = fitL X) :
    Calls Try.prog 15 #[.slice A xs.length ca, .int .i64 e, .pointer (some ⟨bx, 0, none⟩)] w fun r w' => r = .returned (.bool true) ∧ Below w.heap.size w w' := by
  have C1 := Lib.hid (awords_any bx X w hx sx)
  have HA := Lib.hid ha
  have hee : (e == fitE X) = true := by rw [he]; simp
  have HX := Lib.hid hxs
  have HL := Lib.hid hl
  clear hx sx ha he hxs hl
  go_enter Try.func15, Try.ntmps15
  go_wp2_with fail
  refine C1.out.mono ?_
  rintro r w1 ⟨R, c, rfl, h1, h2⟩
  have C2 := equal_any A R ca c xs (fitL X) w1 (HA.out.below h2) h1 HL.out (by rw [← HX.out]; exact HL.out)
  rw [show decide (xs = fitL X) = true from by simpa using HX.out] at C2
  have HC2 := Lib.hid C2
  have H2 := Lib.hid h2
  clear h1 h2 C2 C1
  go_wp2_with fail
  refine HC2.out.mono ?_
  rintro r w2 ⟨rfl, k2⟩
  have K2 := Lib.hid k2
  clear k2
  go_wp2
  go_ret
  exact ⟨rfl, H2.out.trans (K2.out.mono H2.out.size)⟩
end Go.Proofs.Ytfhbnolppahfhaa
