/- (*slices.xorshift).Next. -/
import Derived.Test.YtnihcpaakbhpcaaSo2
import Derived.Test.YtnihcpaakbhpcaaG1
import Derived.RangeFuncBox
namespace Go.Proofs.Ytnihcpaakbhpcaa
open Go.RowKit Go.Deep

theorem xsl_w (x c : W64) (C : Int) (hC : C = (c.toNat : Int)) : ∃ y : W64, bits .xor .u64 (x.toNat : Int) (IntKind.u64.wrap ((x.toNat : Int) * C)) = (y.toNat : Int) := ⟨x ^^^ (x * c), by rw [mulK_w x c C hC, xor_w]⟩
theorem xsr_w (x : W64) (k : Nat) (p : Int) (hp : p = (2 ^ k : Nat)) : ∃ y : W64, bits .xor .u64 (x.toNat : Int) ((x.toNat : Int) / p) = (y.toNat : Int) := ⟨shx k x, shx_w x k p hp⟩

set_option maxRecDepth 100000 in
set_option maxHeartbeats 2000000 in
theorem next_any (p : Nat) (x : W64) (w : World) (hp : Boxed w p 96 (.int .u64 (x.toNat : Int))) :
    Calls Try.prog 83 #[.pointer (some ⟨p, 0, none⟩)] w fun e w' => ∃ y : W64, e = .returned (.int .u64 (y.toNat : Int)) ∧ Boxed w' p 96 (.int .u64 (y.toNat : Int)) ∧ Below p w w' := by
  have c1 := hp.cell
  have f1 := hp.frozen
  obtain ⟨y1, e1⟩ := xsl_w x 8192 8192 rfl
  obtain ⟨y2, e2⟩ := xsr_w y1 7 128 rfl
  obtain ⟨y3, e3⟩ := xsl_w y2 131072 131072 rfl
  have HB1 : Hid (Boxed ((w.setCell ⟨p, 0, none⟩ (.int .u64 (y1.toNat : Int))).drew) p 96 (.int .u64 (y1.toNat : Int))) := Boxed.set (W := w) _ hp
  have HL1 := Lib.hid (((Below.refl p w).setCell (p := ⟨p, 0, none⟩) (Nat.le_refl _) (.int .u64 (y1.toNat : Int))).drew)
  clear hp
  go_enter Try.func83, Try.ntmps83
  go_wp2
  go_region
  generalize (w.setCell ⟨p, 0, none⟩ (.int .u64 (y1.toNat : Int))).drew = w1 at *
  clear c1 f1
  have c1 := HB1.out.cell
  have f1 := HB1.out.frozen
  have HB2 : Hid (Boxed ((w1.setCell ⟨p, 0, none⟩ (.int .u64 (y2.toNat : Int))).drew) p 96 (.int .u64 (y2.toNat : Int))) := Boxed.set (W := w1) _ HB1.out
  have HL2 := Lib.hid ((HL1.out.setCell (p := ⟨p, 0, none⟩) (Nat.le_refl _) (.int .u64 (y2.toNat : Int))).drew)
  clear HB1 HL1
  go_wp2
  go_region
  generalize (w1.setCell ⟨p, 0, none⟩ (.int .u64 (y2.toNat : Int))).drew = w2 at *
  clear c1 f1
  have c1 := HB2.out.cell
  have f1 := HB2.out.frozen
  have HB3 : Hid (Boxed ((w2.setCell ⟨p, 0, none⟩ (.int .u64 (y3.toNat : Int))).drew) p 96 (.int .u64 (y3.toNat : Int))) := Boxed.set (W := w2) _ HB2.out
  have HL3 := Lib.hid ((HL2.out.setCell (p := ⟨p, 0, none⟩) (Nat.le_refl _) (.int .u64 (y3.toNat : Int))).drew)
  clear HB2 HL2
  go_wp2
  go_region
  generalize (w2.setCell ⟨p, 0, none⟩ (.int .u64 (y3.toNat : Int))).drew = w3 at *
  clear c1 f1
  have c1 := HB3.out.cell
  go_wp2
  go_ret
  exact ⟨y3, rfl, HB3.out, HL3.out⟩
end Go.Proofs.Ytnihcpaakbhpcaa
