/- cmp.Less of words; what a sort's part leaves; insertion sort. -/
import Derived.Test.YtnihcpaakbhpcaaSo1
import Derived.Test.YtnihcpaakbhpcaaG2
namespace Go.Proofs.Ytnihcpaakbhpcaa
open Go.RowKit Go.Deep

set_option maxRecDepth 100000 in
set_option maxHeartbeats 1000000 in
theorem less_any (x y : W64) (w : World) : Calls Try.prog 74 #[.int .u64 (x.toNat : Int), .int .u64 (y.toNat : Int)] w fun e w' => e = .returned (.bool (decide (x.toNat < y.toNat))) ∧ w' = w := by
  have C1 := Lib.hid (isNaN_any x w)
  generalize x.toNat = p at *
  generalize y.toNat = q at *
  go_enter Try.func74, Try.ntmps74
  go_wp2_with fail
  refine C1.out.mono ?_
  rintro e w1 ⟨rfl, rfl⟩
  go_wp2
  go_ret
  exact ⟨rfl, rfl⟩

/-- What a part of the sort leaves: swaps within [a, b), and Q. -/
def SPost (w : World) (B : Nat) (v : Value) (a b : Nat) (l : List W64) (Q : List W64 → Prop) (e : Ending) (w' : World) : Prop := ∃ l', e = .returned (.tuple #[]) ∧ Sw a b l l' ∧ Q l' ∧ OU w' B v l' ∧ Below B w w'

/-- What a swap of two cells reads and writes. -/
theorem OU.swapF {w : World} {B g n cap : Nat} {l : List W64} (h : OU w B (.slice (some ⟨g, 0, none⟩) n cap) l) {i j : Nat} (hi : i < l.length) (hj : j < l.length) :
    w.cell? ⟨g, i, none⟩ = some (.int .u64 ((l.getD i 0).toNat : Int)) ∧ w.cell? ⟨g, j, none⟩ = some (.int .u64 ((l.getD j 0).toNat : Int)) ∧ w.frozen? ⟨g, i, none⟩ = false ∧ (w.setCell ⟨g, i, none⟩ (.int .u64 ((l.getD j 0).toNat : Int))).frozen? ⟨g, j, none⟩ = false ∧
    (∃ y : W64, (w.setCell ⟨g, i, none⟩ (.int .u64 ((l.getD j 0).toNat : Int))).cell? ⟨g, j, none⟩ = some (.int .u64 (y.toNat : Int))) := by
  have d := h.set i (l.getD j 0)
  exact ⟨h.at hi, h.at hj, h.frozen i, d.frozen j, _, d.at (i := j) (by rw [List.length_set]; exact hj)⟩
theorem OU.swap {w : World} {B g n cap : Nat} {l : List W64} (h : OU w B (.slice (some ⟨g, 0, none⟩) n cap) l) (i j : Nat) :
    OU ((w.setCell ⟨g, i, none⟩ (.int .u64 ((l.getD j 0).toNat : Int))).setCell ⟨g, j, none⟩ (.int .u64 ((l.getD i 0).toNat : Int))) B (.slice (some ⟨g, 0, none⟩) n cap) (sw l i j) := (h.set i _).set j _
theorem below_swap {B : Nat} {w0 w : World} (h : Below B w0 w) {g : Nat} (hg : B ≤ g) (i j : Nat) (x y : Value) : Below B w0 ((w.setCell ⟨g, i, none⟩ x).setCell ⟨g, j, none⟩ y) := (h.setCell (p := ⟨g, i, none⟩) hg _).setCell (p := ⟨g, j, none⟩) hg _

set_option maxRecDepth 100000 in
set_option maxHeartbeats 2000000 in
theorem insertion_any (B g cap n a b : Nat) (l : List W64) (w : World) (hO : OU w B (.slice (some ⟨g, 0, none⟩) n cap) l) (hn : l.length = n) (hB : B ≤ g) (hab : a ≤ b) (hb : b ≤ n) (hs : n ≤ 17592186044416) :
    Calls Try.prog 68 #[.slice (some ⟨g, 0, none⟩) n cap, .int .i64 a, .int .i64 b] w (SPost w B (.slice (some ⟨g, 0, none⟩) n cap) a b l fun l' => Srt l' a b) := by
  have HO := Lib.hid hO
  have HN := Lib.hid hn
  have HGB := Lib.hid hB
  clear hO hn hB
  go_enter Try.func68, Try.ntmps68
  go_wp2_with fail
  go_loopw [6] (fun iv wr => ∃ (i : Nat) (l' : List W64), a + 1 ≤ i ∧ (i ≤ b ∨ i = a + 1) ∧ iv = .int .i64 i ∧ Sw a b l l' ∧ Srt l' a i ∧ OU wr B (.slice (some ⟨g, 0, none⟩) n cap) l' ∧ Below B w wr) (fun iv _ => b - (intOf iv).toNat)
  case atStart => exact ⟨a + 1, l, by omega, by omega, by go_num, .refl _, fun p q h1 h2 h3 => by omega, HO.out, Below.refl _ _⟩
  case round =>
    obtain ⟨i, l1, hi1, hi2, rfl, hS, hT, hO1, hb1⟩ := hrel
    have HS := Lib.hid hS
    have HT := Lib.hid hT
    have HO1 := Lib.hid hO1
    have HB1 := Lib.hid hb1
    have HL1 := Lib.hid (hS.len.trans HN.out)
    clear hS hT hO1 hb1 HO
    by_cases hlt : i < b
    · obtain ⟨w0, hw0⟩ : ∃ w0, w0 = wr := ⟨_, rfl⟩
      subst hw0
      go_wp2_with fail
      go_loopw [7] (fun jv wq => ∃ (j : Nat) (l' : List W64), a ≤ j ∧ j ≤ i ∧ jv = .int .i64 j ∧ Sw a b l l' ∧ Ins l' a (i + 1) j ∧ OU wq B (.slice (some ⟨g, 0, none⟩) n cap) l' ∧ Below B w wq) (fun jv _ => (intOf jv).toNat)
      case atStart => exact ⟨i, l1, by omega, by omega, rfl, HS.out, Ins.start HT.out, HO1.out, HB1.out⟩
      case round =>
        clear HO1 HB1 HL1 HT HS
        obtain ⟨j, l2, hj1, hj2, rfl, hS, hT, hO2, hb2⟩ := hrel
        have HS := Lib.hid hS
        have HT := Lib.hid hT
        have HO2 := Lib.hid hO2
        have HB2 := Lib.hid hb2
        have HL2 := Lib.hid (hS.len.trans HN.out)
        clear hS hT hO2 hb2
        by_cases hja : a < j
        · obtain ⟨m, hm⟩ : ∃ m, j = m + 1 := ⟨j - 1, by omega⟩
          have hm1 : j - 1 = m := by omega
          have hw : IntKind.i64.wrap ((j : Int) - 1) = (m : Int) := by rw [IntWalk.i64_in _ (by omega)]; omega
          have hw2 : (j : Int) - 1 = (m : Int) := by omega
          have HF := Lib.hid (fun q => OU.swapF (w := wr.drewN q) (i := j) (j := m) HO2.out (by have := HL2.out; omega) (by have := HL2.out; omega))
          have c1 := HO2.out.at (i := j) (by have := HL2.out; omega)
          have c2 := HO2.out.at (i := m) (by have := HL2.out; omega)
          have hO3 := HO2.out.swap j m
          have HI := Ins.swap HT.out (by omega) (by omega) (by have := HL2.out; omega)
          have HD := Ins.done HT.out
          rw [hm1] at HI HD
          have HS3 := Lib.hid (HS.out.step (i := j) (j := m) (by omega) (by omega) (by omega) (by omega) (by have := HL2.out; omega))
          have HO3 := Lib.hid hO3
          have HI := Lib.hid HI
          have HD := Lib.hid HD
          have HK1 : Hid (ky l2 j = (l2.getD j 0).toNat) := rfl
          have HK2 : Hid (ky l2 m = (l2.getD m 0).toNat) := rfl
          clear hO3 hm hm1 HT
          generalize sw l2 j m = l3 at *
          generalize l2.getD j 0 = x at *
          generalize l2.getD m 0 = z at *
          have i1 : (j : Int) < (n : Int) := by omega
          have i2 : (m : Int) < (n : Int) := by omega
          have d1 : decide ((a : Int) < (j : Int)) = true := decide_eq_true (by omega)
          by_cases hc : x.toNat < z.toNat
          · have t1 : decide (x.toNat < z.toNat) = true := decide_eq_true hc
            have HI2 := Lib.hid (HI.out (by rw [HK1.out, HK2.out]; exact hc))
            clear HI HD hc
            go_wp2_with fail
            go_quiet (first | (go_at_call 74; exact Calls.quiet_of_same (less_any _ _ _)))
            go_wp2
            obtain ⟨_, _, f1, f2, y, c3⟩ := HF.out (nq + 1)
            go_region
            go_wp2
            go_roundw
            case rel => exact ⟨m, l3, by omega, by omega, by go_num, HS3.out, HI2.out, HO3.out, below_swap (below_drewN HB2.out _) HGB.out _ _ _ _⟩
            case measure => simp [intOf]; omega
          · have t1 : decide (x.toNat < z.toNat) = false := decide_eq_false hc
            have HD2 := Lib.hid (HD.out (.inr (by rw [HK1.out, HK2.out]; omega)))
            clear HI HD hc
            go_wp2_with fail
            go_quiet (first | (go_at_call 74; exact Calls.quiet_of_same (less_any _ _ _)))
            go_wp2
            go_roundw
            case rel => exact ⟨i + 1, l2, by omega, by omega, by go_num, HS.out, HD2.out, HO2.out, below_drewN HB2.out _⟩
            case measure => simp [intOf]; omega
        · obtain rfl : j = a := by omega
          have HD2 := Lib.hid (Ins.done HT.out (.inl rfl))
          have d1 : decide ((j : Int) < (j : Int)) = false := decide_eq_false (by omega)
          go_wp2_with fail
          go_quiet (fail)
          go_wp2
          go_roundw
          case rel => exact ⟨i + 1, l2, by omega, by omega, by go_num, HS.out, HD2.out, HO2.out, below_drewN HB2.out _⟩
          case measure => simp [intOf]; omega
    · have HR : Hid (Srt l1 a b) := by
        intro p q h1 h2 h3
        exact HT.out p q h1 h2 (by omega)
      go_wp2
      go_end0
      exact ⟨l1, rfl, HS.out, HR.out, HO1.out, HB1.out⟩
end Go.Proofs.Ytnihcpaakbhpcaa
