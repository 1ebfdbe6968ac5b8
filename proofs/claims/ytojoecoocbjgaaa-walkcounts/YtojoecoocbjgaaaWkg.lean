/- WalkCounts: told. -/
import Derived.Test.YtojoecoocbjgaaaWkf
namespace Go.Proofs.Ytojoecoocbjgaaa
open Go.RowKit Go.Deep Go.Maps

def av (p : Prop) [Decidable p] (x : Int) : Int := if p then x else 0
def ae (p : Prop) [Decidable p] : Int := if p then 0 else 2
theorem ans_parts (p : Prop) [Decidable p] (x : Int) : ans p x = .tuple #[.int .i64 (av p x), .int .i64 (ae p)] := by
  unfold ans av ae
  split <;> rfl

set_option maxRecDepth 100000 in
set_option maxHeartbeats 1000000 in
theorem told_any (fid : Nat) (caps : Array Value) (p : Prop) [Decidable p] (x : Int) (w : World) (hen : ∀ (args : Array Value) (w : World), (callFunc fid args).run Try.prog w = .ok (.enter fid args) w)
    (hw : p → Calls Try.prog fid caps w fun e w' => e = .returned (.int .i64 x) ∧ Below w.heap.size w w') :
    Calls Try.prog 14 #[.int .i64 (av p x), .int .i64 (ae p), .bool (!decide p), .func (.func fid) #[] caps] w fun e w' => e = .returned (.bool true) ∧ Below w.heap.size w w' := by
  unfold av ae
  by_cases h : p
  · have C := Lib.hid (hw h)
    rw [if_pos h, if_pos h, decide_eq_true h]
    clear hw
    go_enter Try.func14, Try.ntmps14
    go_wp2_with (first
      | (go_at_fn fid; refine C.out.mono ?_; rintro e w1 ⟨rfl, hb⟩)
      | go_in)
    go_wp2
    go_ret
    exact ⟨rfl, hb⟩
  · rw [if_neg h, if_neg h, decide_eq_false h]
    clear hw h hen
    go_enter Try.func14, Try.ntmps14
    go_wp2
    go_ret
    exact ⟨rfl, Below.refl _ _⟩

theorem enters_q3 (args : Array Value) (w : World) : (callFunc 17 args).run Try.prog w = .ok (.enter 17 args) w := enters_of Try.func17 (by kernel_rfl) rfl args w
theorem enters_q4 (args : Array Value) (w : World) : (callFunc 19 args).run Try.prog w = .ok (.enter 19 args) w := enters_of Try.func19 (by kernel_rfl) rfl args w
theorem enters_q5 (args : Array Value) (w : World) : (callFunc 21 args).run Try.prog w = .ok (.enter 21 args) w := enters_of Try.func21 (by kernel_rfl) rfl args w
theorem enters_q6 (args : Array Value) (w : World) : (callFunc 23 args).run Try.prog w = .ok (.enter 23 args) w := enters_of Try.func23 (by kernel_rfl) rfl args w
theorem enters_q7 (args : Array Value) (w : World) : (callFunc 25 args).run Try.prog w = .ok (.enter 25 args) w := enters_of Try.func25 (by kernel_rfl) rfl args w

/-- The five of them, in a world where the boxes lie. -/
theorem told3 (n z : Int) (gn ga gt : Nat) (w : World) (h1 : w.cell? ⟨gn, 0, none⟩ = some (.int .i64 n)) (h2 : w.cell? ⟨ga, 0, none⟩ = some (.func (.func 15) #[] #[])) (h3 : w.cell? ⟨gt, 0, none⟩ = some (.int .i64 z))
    (l1 : gn < w.heap.size) (l2 : ga < w.heap.size) (l3 : gt < w.heap.size) :
    Calls Try.prog 14 #[.int .i64 (av (stp n ∧ hgt z) (free n.toNat z)), .int .i64 (ae (stp n ∧ hgt z)), .bool (!decide (stp n ∧ hgt z)), .func (.func 17) #[] #[.pointer (some ⟨gn, 0, none⟩), .pointer (some ⟨ga, 0, none⟩), .pointer (some ⟨gt, 0, none⟩)]] w fun e w' => e = .returned (.bool true) ∧ Below w.heap.size w w' :=
  told_any _ _ _ _ w enters_q3 fun h => by
    obtain ⟨m, rfl⟩ := Int.eq_ofNat_of_zero_le h.1.1
    rw [Int.toNat_natCast]
    exact q3_any m z gn ga gt w (by have := h.1.2; omega) h.2 h1 h2 h3 l1 l2 l3
theorem told4 (n a z : Int) (gn ga gt : Nat) (w : World) (h1 : w.cell? ⟨gn, 0, none⟩ = some (.int .i64 n)) (h2 : w.cell? ⟨ga, 0, none⟩ = some (.int .i64 a)) (h3 : w.cell? ⟨gt, 0, none⟩ = some (.int .i64 z))
    (l1 : gn < w.heap.size) (l2 : ga < w.heap.size) (l3 : gt < w.heap.size) :
    Calls Try.prog 14 #[.int .i64 (av (stp n ∧ hgt a ∧ hgt z) (above n.toNat a z)), .int .i64 (ae (stp n ∧ hgt a ∧ hgt z)), .bool (!decide (stp n ∧ hgt a ∧ hgt z)), .func (.func 19) #[] #[.pointer (some ⟨gn, 0, none⟩), .pointer (some ⟨ga, 0, none⟩), .pointer (some ⟨gt, 0, none⟩)]] w fun e w' => e = .returned (.bool true) ∧ Below w.heap.size w w' :=
  told_any _ _ _ _ w enters_q4 fun h => by
    obtain ⟨m, rfl⟩ := Int.eq_ofNat_of_zero_le h.1.1
    rw [Int.toNat_natCast]
    exact q4_any m a z gn ga gt w (by have := h.1.2; omega) h.2.2 h.2.1 h1 h2 h3 l1 l2 l3
theorem told5 (n a z t : Int) (gn ga gT gt : Nat) (w : World) (h1 : w.cell? ⟨gn, 0, none⟩ = some (.int .i64 n)) (h2 : w.cell? ⟨ga, 0, none⟩ = some (.int .i64 a)) (h3 : w.cell? ⟨gt, 0, none⟩ = some (.int .i64 z)) (h4 : w.cell? ⟨gT, 0, none⟩ = some (.int .i64 t))
    (l1 : gn < w.heap.size) (l2 : ga < w.heap.size) (l3 : gt < w.heap.size) (l4 : gT < w.heap.size) :
    Calls Try.prog 14 #[.int .i64 (av (stp n ∧ hgt a ∧ hgt z ∧ hgt t) (bet t n.toNat a z)), .int .i64 (ae (stp n ∧ hgt a ∧ hgt z ∧ hgt t)), .bool (!decide (stp n ∧ hgt a ∧ hgt z ∧ hgt t)), .func (.func 21) #[] #[.pointer (some ⟨gn, 0, none⟩), .pointer (some ⟨ga, 0, none⟩), .pointer (some ⟨gT, 0, none⟩), .pointer (some ⟨gt, 0, none⟩)]] w fun e w' => e = .returned (.bool true) ∧ Below w.heap.size w w' :=
  told_any _ _ _ _ w enters_q5 fun h => by
    obtain ⟨m, rfl⟩ := Int.eq_ofNat_of_zero_le h.1.1
    rw [Int.toNat_natCast]
    exact q5_any m a t z gn ga gT gt w (by have := h.1.2; omega) h.2.2.1 h.2.1 h1 h2 h3 h4 l1 l2 l3 l4
theorem told6 (n : Int) (gn : Nat) (w : World) (h1 : w.cell? ⟨gn, 0, none⟩ = some (.int .i64 n)) (l1 : gn < w.heap.size) :
    Calls Try.prog 14 #[.int .i64 (av (stp n) (fstZ n.toNat)), .int .i64 (ae (stp n)), .bool (!decide (stp n)), .func (.func 23) #[] #[.pointer (some ⟨gn, 0, none⟩)]] w fun e w' => e = .returned (.bool true) ∧ Below w.heap.size w w' :=
  told_any _ _ _ _ w enters_q6 fun h => by
    obtain ⟨m, rfl⟩ := Int.eq_ofNat_of_zero_le h.1
    rw [Int.toNat_natCast]
    exact q6_any m gn w (by have := h.2; omega) h1 l1
theorem told7 (n : Int) (gn : Nat) (w : World) (h1 : w.cell? ⟨gn, 0, none⟩ = some (.int .i64 n)) :
    Calls Try.prog 14 #[.int .i64 (av (0 ≤ n ∧ n ≤ 28) (cat n.toNat)), .int .i64 (ae (0 ≤ n ∧ n ≤ 28)), .bool (!decide (0 ≤ n ∧ n ≤ 28)), .func (.func 25) #[] #[.pointer (some ⟨gn, 0, none⟩)]] w fun e w' => e = .returned (.bool true) ∧ Below w.heap.size w w' :=
  told_any _ _ _ _ w enters_q7 fun h => by
    obtain ⟨m, rfl⟩ := Int.eq_ofNat_of_zero_le h.1
    rw [Int.toNat_natCast]
    exact q7_any m gn w (by have := h.2; omega) h1
end Go.Proofs.Ytojoecoocbjgaaa
