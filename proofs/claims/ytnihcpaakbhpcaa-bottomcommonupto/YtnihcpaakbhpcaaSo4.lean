/- Partitions of words: the mathematics; slices.partitionEqualOrdered. -/
import Derived.Test.YtnihcpaakbhpcaaSo2
namespace Go.Proofs.Ytnihcpaakbhpcaa
open Go.RowKit Go.Deep

/-- Between two steps of a partition: what is done on the left is L, on the right H; the pivot P lies at a. -/
structure PtS (L H : Nat → Prop) (l l' : List W64) (a b i j : Nat) (P : W64) : Prop where
  sw : Sw a b l l'
  p : l'.getD a 0 = P
  i1 : a + 1 ≤ i
  ij : i ≤ j + 1
  jb : j < b
  lo : ∀ k, a < k → k < i → L (ky l' k)
  hi : ∀ k, j < k → k < b → H (ky l' k)
section
variable {L H : Nat → Prop} {l l' : List W64} {a b i j : Nat} {P : W64}
theorem PtS.start {p : Nat} (h1 : a ≤ p) (h2 : p < b) (hb : b ≤ l.length) : PtS L H l (Go.Proofs.Ytnihcpaakbhpcaa.sw l a p) a b (a + 1) (b - 1) (l.getD p 0) := by
  refine ⟨.one (Nat.le_refl _) (by omega) h1 h2 hb, ?_, Nat.le_refl _, by omega, by omega, fun k k1 k2 => by omega, fun k k1 k2 => by omega⟩
  rw [sw_at (by omega) (by omega)]
  by_cases e : a = p
  · rw [if_pos e, e]
  · rw [if_neg e, if_pos rfl]
theorem PtS.incI (h : PtS L H l l' a b i j P) (hij : i ≤ j) (hc : L (ky l' i)) : PtS L H l l' a b (i + 1) j P := by
  refine ⟨h.sw, h.p, by have := h.i1; omega, by omega, h.jb, fun k k1 k2 => ?_, h.hi⟩
  by_cases e : k = i
  · rw [e]; exact hc
  · exact h.lo k k1 (by omega)
theorem PtS.decJ (h : PtS L H l l' a b i j P) (hij : i ≤ j) (hc : H (ky l' j)) : PtS L H l l' a b i (j - 1) P := by
  have := h.i1
  have := h.jb
  refine ⟨h.sw, h.p, h.i1, by omega, by omega, h.lo, fun k k1 k2 => ?_⟩
  by_cases e : k = j
  · rw [e]; exact hc
  · exact h.hi k (by omega) k2
theorem PtS.swap (h : PtS L H l l' a b i j P) (hij : i < j) (h1 : H (ky l' i)) (h2 : L (ky l' j)) (hb : b ≤ l.length) : PtS L H l (Go.Proofs.Ytnihcpaakbhpcaa.sw l' i j) a b (i + 1) (j - 1) P := by
  have x1 := h.i1
  have x2 := h.jb
  have x3 := h.sw.len
  refine ⟨.step h.sw (by omega) (by omega) (by omega) (by omega) (by omega), ?_, by omega, by omega, by omega, fun k k1 k2 => ?_, fun k k1 k2 => ?_⟩
  · rw [sw_at (by omega) (by omega), if_neg (by omega), if_neg (by omega)]; exact h.p
  · rw [sw_ky (by omega) (by omega), if_neg (by omega)]
    by_cases e : k = i
    · rw [if_pos e]; exact h2
    · rw [if_neg e]; exact h.lo k k1 (by omega)
  · rw [sw_ky (by omega) (by omega)]
    by_cases e : k = j
    · rw [if_pos e]; exact h1
    · rw [if_neg e, if_neg (by omega)]; exact h.hi k (by omega) k2
end
/-- The pivot goes to its place. -/
theorem PtS.last {l l' : List W64} {a b i j : Nat} {P : W64} (h : PtS (· < P.toNat) (P.toNat ≤ ·) l l' a b i j P) (hij : j < i) (hb : b ≤ l.length) : Sw a b l (Go.Proofs.Ytnihcpaakbhpcaa.sw l' j a) ∧ Pt (Go.Proofs.Ytnihcpaakbhpcaa.sw l' j a) a b j := by
  have x1 := h.i1
  have x2 := h.jb
  have x3 := h.sw.len
  have x4 := h.ij
  have hp : ky l' a = P.toNat := by unfold ky; rw [h.p]
  have e0 : ky (Go.Proofs.Ytnihcpaakbhpcaa.sw l' j a) j = P.toNat := by
    rw [sw_ky (by omega) (by omega)]
    by_cases e : j = a
    · rw [if_pos e, e, hp]
    · rw [if_neg e, if_pos rfl, hp]
  refine ⟨.step h.sw (by omega) (by omega) (by omega) (by omega) (by omega), fun k k1 k2 => ?_, fun k k1 k2 => ?_⟩
  · rw [e0, sw_ky (by omega) (by omega)]
    by_cases e : k = a
    · rw [if_pos e]; exact Nat.le_of_lt (h.lo j (by omega) (by omega))
    · rw [if_neg e, if_neg (by omega)]; exact Nat.le_of_lt (h.lo k (by omega) (by omega))
  · rw [e0, sw_ky (by omega) (by omega), if_neg (by omega), if_neg (by omega)]
    exact h.hi k k1 k2
/-- What partitionEqual leaves. -/
def EPost (w : World) (B : Nat) (v : Value) (a b : Nat) (l : List W64) (pv : Nat) (e : Ending) (w' : World) : Prop := ∃ (l' : List W64) (m : Nat), e = .returned (.int .i64 m) ∧ Sw a b l l' ∧ a < m ∧ m ≤ b ∧ (∀ k, a ≤ k → k < m → ky l' k ≤ pv) ∧ (∀ k, m ≤ k → k < b → pv < ky l' k) ∧ OU w' B v l' ∧ Below B w w'
theorem PtS.eq {l l' : List W64} {a b i j : Nat} {P : W64} (h : PtS (· ≤ P.toNat) (P.toNat < ·) l l' a b i j P) (hij : j < i) : a < i ∧ i ≤ b ∧ (∀ k, a ≤ k → k < i → ky l' k ≤ P.toNat) ∧ ∀ k, i ≤ k → k < b → P.toNat < ky l' k := by
  have x1 := h.i1
  have x2 := h.jb
  have x4 := h.ij
  refine ⟨by omega, by omega, fun k k1 k2 => ?_, fun k k1 k2 => h.hi k (by omega) k2⟩
  by_cases e : k = a
  · rw [e]; unfold ky; rw [h.p]; exact Nat.le_refl _
  · exact h.lo k (by omega) k2

set_option maxRecDepth 100000 in
set_option maxHeartbeats 4000000 in
theorem partEq_any (B g cap n a b p : Nat) (l : List W64) (w : World) (hO : OU w B (.slice (some ⟨g, 0, none⟩) n cap) l) (hn : l.length = n) (hB : B ≤ g) (hp1 : a ≤ p) (hp2 : p < b) (hb : b ≤ n) (hs : n ≤ 17592186044416) :
    Calls Try.prog 75 #[.slice (some ⟨g, 0, none⟩) n cap, .int .i64 a, .int .i64 b, .int .i64 p] w (EPost w B (.slice (some ⟨g, 0, none⟩) n cap) a b l (ky l p)) := by
  have HK : Hid (ky l p = (l.getD p 0).toNat) := rfl
  rw [HK.out]
  have HGB := Lib.hid hB
  have HP0 := Lib.hid (PtS.start (L := (· ≤ (l.getD p 0).toNat)) (H := ((l.getD p 0).toNat < ·)) hp1 hp2 (by omega : b ≤ l.length))
  have HF2 := Lib.hid (OU.swapF (w := w) (i := a) (j := p) hO (by omega) (by omega))
  have f1 := hO.frozen a
  have f3 := hO.frozen p
  have c1 := hO.at (i := a) (by omega)
  have c2 := hO.at (i := p) (by omega)
  have HO0 := Lib.hid (hO.swap a p)
  have i1 : (a : Int) < (n : Int) := by omega
  have i2 : (p : Int) < (n : Int) := by omega
  have HN := Lib.hid hn
  clear hO hB HK hn
  generalize sw l a p = l0 at *
  generalize l.getD p 0 = P at *
  generalize l.getD a 0 = z at *
  go_enter Try.func75, Try.ntmps75
  go_wp2
  obtain ⟨_, _, _, f2, y, c3⟩ := HF2.out
  go_region
  clear f1 f2 f3 c1 c2 c3 HF2
  go_wp2_with fail
  go_loopw [9, 10] (fun iv jv wr => ∃ (i j : Nat) (l' : List W64), iv = .int .i64 i ∧ jv = .int .i64 j ∧ PtS (· ≤ P.toNat) (P.toNat < ·) l l' a b i j P ∧ OU wr B (.slice (some ⟨g, 0, none⟩) n cap) l' ∧ Below B w wr) (fun iv jv _ => (intOf jv).toNat + 1 - (intOf iv).toNat)
  case atStart => exact ⟨a + 1, b - 1, l0, by go_num, by go_num, HP0.out, HO0.out, (below_swap (Below.refl B w) HGB.out _ _ _ _).drew⟩
  case round =>
    clear HP0 HO0
    obtain ⟨i, j, l1, rfl, rfl, hP, hO1, hb1⟩ := hrel
    have HP := Lib.hid hP
    have HO1 := Lib.hid hO1
    have HB1 := Lib.hid hb1
    clear hP hO1 hb1
    obtain ⟨w0, hw0⟩ : ∃ w0, w0 = wr := ⟨_, rfl⟩
    subst hw0
    go_wp2_with fail
    go_loopw [9] (fun iv wr => ∃ i' : Nat, i ≤ i' ∧ iv = .int .i64 i' ∧ PtS (· ≤ P.toNat) (P.toNat < ·) l l1 a b i' j P ∧ OU wr B (.slice (some ⟨g, 0, none⟩) n cap) l1 ∧ Below B w wr) (fun iv _ => j + 1 - (intOf iv).toNat)
    case atStart => exact ⟨i, Nat.le_refl _, rfl, HP.out, HO1.out, HB1.out⟩
    case round =>
      clear HP HO1 HB1
      obtain ⟨i', hii, rfl, hP, hO1, hb1⟩ := hrel
      have HP := Lib.hid hP
      have HO1 := Lib.hid hO1
      have HB1 := Lib.hid hb1
      have HL := Lib.hid (hP.sw.len.trans HN.out)
      have q1 := hP.i1
      have q2 := hP.ij
      have q3 := hP.jb
      clear hP hO1 hb1
      by_cases hx : i' ≤ j ∧ ky l1 i' ≤ P.toNat
      · obtain ⟨hij, hx⟩ := hx
        have c1 := HO1.out.at (i := a) (by have := HL.out; omega)
        rw [HP.out.p] at c1
        have c2 := HO1.out.at (i := i') (by have := HL.out; omega)
        have HP2 := Lib.hid (HP.out.incI hij hx)
        have hx2 : (l1.getD i' 0).toNat ≤ P.toNat := hx
        clear hx
        generalize l1.getD i' 0 = x at *
        have i3 : (i' : Int) < (n : Int) := by omega
        have d1 : decide ((i' : Int) ≤ (j : Int)) = true := decide_eq_true (by omega)
        have t1 : decide (P.toNat < x.toNat) = false := decide_eq_false (by omega)
        clear hx2
        go_wp2_with fail
        go_quiet (first | (go_at_call 74; exact Calls.quiet_of_same (less_any _ _ _)))
        go_wp2
        go_roundw
        case rel => exact ⟨i' + 1, by omega, by go_num, HP2.out, HO1.out, below_drewN HB1.out _⟩
        case measure => simp [intOf]; omega
      · have HX : Hid (i' ≤ j → P.toNat < ky l1 i') := fun h => by omega
        clear hx
        by_cases hij : i' ≤ j
        case' pos =>
          have c1 := HO1.out.at (i := a) (by have := HL.out; omega)
          rw [HP.out.p] at c1
          have c2 := HO1.out.at (i := i') (by have := HL.out; omega)
          have hx2 : P.toNat < (l1.getD i' 0).toNat := HX.out hij
          generalize l1.getD i' 0 = x at *
          have i3 : (i' : Int) < (n : Int) := by omega
          have d1 : decide ((i' : Int) ≤ (j : Int)) = true := decide_eq_true (by omega)
          have t1 : decide (P.toNat < x.toNat) = true := decide_eq_true (by omega)
          clear hx2
          go_wp2_with fail
          go_quiet (first | (go_at_call 74; exact Calls.quiet_of_same (less_any _ _ _)))
          clear c1 c2 i3 d1 t1
        case' neg =>
          have d1 : decide ((i' : Int) ≤ (j : Int)) = false := decide_eq_false (by omega)
          go_wp2_with fail
          go_quiet (fail)
          clear d1
        all_goals
          clear hij
          go_wp2_with fail
          go_loopw [10] (fun jv wr => ∃ j' : Nat, j' ≤ j ∧ jv = .int .i64 j' ∧ PtS (· ≤ P.toNat) (P.toNat < ·) l l1 a b i' j' P ∧ OU wr B (.slice (some ⟨g, 0, none⟩) n cap) l1 ∧ Below B w wr) (fun jv _ => (intOf jv).toNat)
          case atStart => exact ⟨j, Nat.le_refl _, rfl, HP.out, HO1.out, below_drewN HB1.out _⟩
          case round =>
            clear HP HO1 HB1 q2 q3
            obtain ⟨j', hjj, rfl, hP, hO1, hb1⟩ := hrel
            have HP := Lib.hid hP
            have HO1 := Lib.hid hO1
            have HB1 := Lib.hid hb1
            have q2 := hP.ij
            have q3 := hP.jb
            clear hP hO1 hb1
            by_cases hij : i' ≤ j'
            · have c1 := HO1.out.at (i := a) (by have := HL.out; omega)
              rw [HP.out.p] at c1
              have c2 := HO1.out.at (i := j') (by have := HL.out; omega)
              have i3 : (j' : Int) < (n : Int) := by omega
              have d1 : decide ((i' : Int) ≤ (j' : Int)) = true := decide_eq_true (by omega)
              by_cases hx : P.toNat < ky l1 j'
              · have HP2 := Lib.hid (HP.out.decJ hij hx)
                have hx2 : P.toNat < (l1.getD j' 0).toNat := hx
                clear hx
                generalize l1.getD j' 0 = x at *
                have t1 : decide (P.toNat < x.toNat) = true := decide_eq_true (by omega)
                clear hx2
                go_wp2_with fail
                go_quiet (first | (go_at_call 74; exact Calls.quiet_of_same (less_any _ _ _)))
                go_wp2
                go_roundw
                case rel => exact ⟨j' - 1, by omega, by go_num, HP2.out, HO1.out, below_drewN HB1.out _⟩
                case measure => simp [intOf]; omega
              · have hx1 : P.toNat < ky l1 i' := HX.out (by omega)
                have hne : i' < j' := by
                  rcases Nat.lt_or_ge i' j' with h | h
                  · exact h
                  · obtain rfl : i' = j' := by omega
                    omega
                have HP2 := Lib.hid (HP.out.swap hne hx1 (by omega) (by have := HN.out; omega))
                have hx2 : ¬ P.toNat < (l1.getD j' 0).toNat := hx
                have c3 := HO1.out.at (i := i') (by have := HL.out; omega)
                have HF := Lib.hid (fun q => OU.swapF (w := wr.drewN q) (i := i') (j := j') HO1.out (by have := HL.out; omega) (by have := HL.out; omega))
                have HO3 := Lib.hid (HO1.out.swap i' j')
                clear hx hx1
                generalize sw l1 i' j' = l3 at *
                generalize l1.getD j' 0 = x at *
                generalize l1.getD i' 0 = u at *
                have i4 : (i' : Int) < (n : Int) := by omega
                have t1 : decide (P.toNat < x.toNat) = false := decide_eq_false (by omega)
                have d2 : decide ((j' : Int) < (i' : Int)) = false := decide_eq_false (by omega)
                clear hx2
                go_wp2_with fail
                go_quiet (first | (go_at_call 74; exact Calls.quiet_of_same (less_any _ _ _)))
                go_wp2
                obtain ⟨_, _, f1, f2, y, c4⟩ := HF.out (nq + 1)
                go_region
                go_wp2
                go_roundw
                case rel => exact ⟨i' + 1, j' - 1, l3, by go_num, by go_num, HP2.out, HO3.out, below_swap (below_drewN HB1.out _) HGB.out _ _ _ _⟩
                case measure => simp [intOf]; omega
            · have HE := Lib.hid (HP.out.eq (by omega))
              have HS := Lib.hid HP.out.sw
              have d1 : decide ((i' : Int) ≤ (j' : Int)) = false := decide_eq_false (by omega)
              have d2 : decide ((j' : Int) < (i' : Int)) = true := decide_eq_true (by omega)
              go_wp2_with fail
              go_quiet (fail)
              go_wp2
              go_ret
              obtain ⟨e1, e2, e3, e4⟩ := HE.out
              exact ⟨l1, i', rfl, HS.out, e1, e2, e3, e4, HO1.out, below_drewN HB1.out _⟩
end Go.Proofs.Ytnihcpaakbhpcaa
