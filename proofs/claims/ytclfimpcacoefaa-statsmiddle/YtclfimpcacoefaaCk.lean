/- slices.Clone of integers where it may be nil or empty. -/
import Derived.Test.YtclfimpcacoefaaCi
namespace Go.Proofs.Ytclfimpcacoefaa
open Go.RowKit Go.Deep

/-- slices.Clone where it may be nil or empty. -/
theorem clone_any (A : Option Addr) (ca : Nat) (l : List Int) (w : World) (hl : IP w A ca l) (hb : l.length < 17592186044416) :
    Calls Try.prog 23 #[.slice A l.length ca] w fun e w' => ∃ v, e = .returned v ∧ OI w' w.heap.size v l ∧ Below w.heap.size w w' := by
  by_cases h0 : 0 < l.length
  · exact cloneO_any A ca l w hl h0 hb
  · obtain rfl : l = [] := List.eq_nil_of_length_eq_zero (by omega)
    have q22 : ∀ (w : World) (a : Option Addr) (n c n' c' : Nat), (binOp .eql 22 (.slice a n c) (.slice none n' c')).run Try.prog w = .ok (.bool a.isNone) w := fun w a n c n' c' => Lib.run_eql_slice_nil w _ _ a n c n' c' Try.underlying22
    obtain ⟨i0, hi0, hz0, hz1, hz2⟩ := info_parts info_int
    clear h0 hb
    cases A with
    | none =>
      obtain rfl : ca = 0 := hl.none rfl
      clear hl
      go_enter Try.func23, Try.ntmps23
      go_wp2
      go_ret
      exact ⟨_, rfl, OI.nil _ _, Below.refl _ _⟩
    | some a =>
      clear hl
      go_enter Try.func23, Try.ntmps23
      go_wp2_with (at_builtin; refine wpList_append_own _ rfl _ _ 22 rfl w.heap.size 3 i0 (.int .i64 0) 1 8 Try.underlying22 hi0 hz0 hz1 hz2 rfl (by decide) _ _ _ rfl (World.ownsRow_made w #[] 0 (Nat.le_refl _) (Nat.zero_le _) rfl) a 0 ca [] rfl ?qc1 ?qc2 ?qc3 ?qc4 ?qc5 ?qc6 ?_)
      case qc1 => simp
      case qc2 => intro j u hj; simp at hj
      case qc3 => intro u hu; simp at hu
      case qc4 => unfold maxLen; omega
      case qc5 => omega
      case qc6 => simp
      intro v' w1 hown hgrow hnil
      go_wp2
      go_ret
      have hB : Below w.heap.size w w1 := ((Below.refl _ w).alloc (Nat.le_refl _) _).grown hgrow (by simp) (by intro k hk; simp [Value.ownBlock] at hk; omega)
      refine ⟨_, rfl, ?_, hB⟩
      unfold OI
      simpa [ivs] using hown
end Go.Proofs.Ytclfimpcacoefaa
