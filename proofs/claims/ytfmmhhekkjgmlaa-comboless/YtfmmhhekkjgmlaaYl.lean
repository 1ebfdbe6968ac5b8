/- lotdrawerkeep.ComboLess: the walk. -/
import Derived.Test.YtfmmhhekkjgmlaaX6
namespace Go.Proofs.Ytfmmhhekkjgmlaa
open Go.RowKit Go.Deep

theorem rankC_cases (n m : Int) (c : List Int) : (rankC n c).2 = 1 ∨ ((rankC n c).2 = 0 ∧ (rankC m c).2 = 1) ∨ ((rankC n c).2 = 0 ∧ (rankC m c).2 = 0 ∧ (rankC n c).1 = (rankC m c).1) := by
  unfold rankC
  by_cases h1 : RC n c
  · by_cases h2 : RC m c
    · rw [if_pos h1, if_pos h2]; exact .inr (.inr ⟨rfl, rfl, rfl⟩)
    · rw [if_pos h1, if_neg h2]; exact .inr (.inl ⟨rfl, rfl⟩)
  · rw [if_neg h1]; exact .inl rfl

set_option maxRecDepth 100000 in
set_option maxHeartbeats 2000000 in
theorem comboLess_walk (n more : Int) (A : Option Addr) (ca : Nat) (c : List Int) (w : World) (hc : IP w A ca c) :
    Calls Try.prog 8 #[.int .i64 n, .int .i64 more, .slice A c.length ca] w fun e w' => e = .returned (.bool true) ∧ Below w.heap.size w w' := by
  have CA := Lib.hid (alive5_any w)
  have hle := hc.le
  have hcap := hc.cap
  have HC := Lib.hid hc
  clear hc
  go_enter Try.func8, Try.ntmps8
  go_wp2_with fail
  refine CA.out.mono ?_
  rintro e w1 ⟨rfl, hB1⟩
  have HB := Lib.hid hB1
  have IC := Lib.hid (HC.out.later hB1)
  clear CA hB1
  by_cases h1 : more < 0
  · go_wp2
    go_ret
    exact ⟨rfl, HB.out⟩
  · by_cases h2 : 60 < more
    · go_wp2
      go_ret
      exact ⟨rfl, HB.out⟩
    · have C1 := Lib.hid (rank_any5 n A ca c w1 IC.out)
      have C2 := Lib.hid (rank_any5 (wrap64 (n + more)) A ca c w1 IC.out)
      have hcs := rankC_cases n (wrap64 (n + more)) c
      unfold ptup at C1 C2
      generalize rankC n c = r1 at *
      generalize rankC (wrap64 (n + more)) c = r2 at *
      obtain ⟨a, e⟩ := r1
      obtain ⟨b, f⟩ := r2
      simp only [] at hcs C1 C2
      rcases hcs with rfl | ⟨rfl, rfl⟩ | ⟨rfl, rfl, rfl⟩
      all_goals
        go_wp2_with fail
        refine C1.out.mono ?_
        rintro e w2 ⟨rfl, rfl⟩
        clear C1
        go_wp2_with fail
        refine C2.out.mono ?_
        rintro e w3 ⟨rfl, rfl⟩
        clear C2
        go_wp2
        go_ret
        exact ⟨rfl, HB.out⟩
end Go.Proofs.Ytfmmhhekkjgmlaa
