/- lotdrawerlaw.TapeDraws: the walk. -/
import Derived.Test.YtdfhlmacdgmpmaaT4
import Derived.Test.YtdfhlmacdgmpmaaT5
import Derived.Test.YtdfhlmacdgmpmaaT7
namespace Go.Proofs.Ytdfhlmacdgmpmaa
open Go.RowKit Go.Deep

theorem equal_same (A B : Option Addr) (ca cb : Nat) (xs : List Int) (w : World) (ha : IP w A ca xs) (hb : IP w B cb xs) :
    Calls Try.prog 14 #[.slice A xs.length ca, .slice B xs.length cb] w fun e w' => e = .returned (.bool true) ∧ Below w.heap.size w w' := by
  have h := equal_any A B ca cb xs xs w ha.il hb.il (Nat.le_trans ha.le ha.cap) (Nat.le_trans ha.le ha.cap)
  simpa using h

set_option maxRecDepth 100000 in
set_option maxHeartbeats 2000000 in
theorem tapeDraws_walk (A B : Option Addr) (ca cb : Nat) (t : List Bool) (n : Int) (l : List Int) (w : World) (ht : TP w A ca t) (hl : IP w B cb l) (hb : l.length * 8 ≤ 140737488355328) :
    Calls Try.prog 3 #[.slice A t.length ca, .int .i64 n, .slice B l.length cb] w fun e w' => e = .returned (.bool true) ∧ Below w.heap.size w w' := by
  have C1 := Lib.hid (below_any A ca t n w ht)
  have C2 := Lib.hid (bbelow_any A ca t n w ht)
  have C3 := Lib.hid (many_any A B ca cb t l w ht hl (by omega))
  unfold tup at C1 C2
  have HT := Lib.hid ht
  have HL := Lib.hid hl
  clear ht hl
  generalize bel t n = r at *
  obtain ⟨r1, r2, r3⟩ := r
  simp only [] at C1 C2
  go_enter Try.func3, Try.ntmps3
  go_wp2_with fail
  refine C1.out.mono ?_
  rintro e w' ⟨rfl, rfl⟩
  go_wp2_with fail
  refine C2.out.mono ?_
  rintro e w' ⟨rfl, rfl⟩
  go_wp2_with fail
  refine C3.out.mono ?_
  rintro e w3 ⟨R3, c3, rfl, hI3, hB3⟩
  clear C1 C2 C3
  have C4 := Lib.hid (bmany_any A B ca cb t l w3 (HT.out.later hB3) (HL.out.later hB3) hb)
  have I3 := Lib.hid hI3
  have HB3 := Lib.hid hB3
  clear hI3 hB3
  generalize mny t l = m at *
  obtain ⟨m1, m2, m3⟩ := m
  unfold mtup
  simp only [] at I3 ⊢
  go_wp2_with fail
  refine C4.out.mono ?_
  rintro e w4 ⟨R4, c4, rfl, hI4, hB4⟩
  clear C4
  have HB4 : Hid (Below w.heap.size w w4) := HB3.out.trans (hB4.mono HB3.out.size)
  have I4 := Lib.hid hI4
  have I3 := Lib.hid (I3.out.later hB4)
  have C5 := Lib.hid (fair_any A ca t w4 (HT.out.later HB4.out))
  clear hI4 hB4
  unfold mtup
  unfold ftup at C5
  simp only [] at I4 ⊢
  obtain ⟨⟨f1, f2, f3⟩, hf⟩ : ∃ f, fair t = f := ⟨_, rfl⟩
  have HF := Lib.hid hf
  rw [HF.out] at C5
  clear hf
  simp only [] at C5
  go_wp2_with fail
  refine C5.out.mono ?_
  rintro e w5 ⟨rfl, hB5⟩
  clear C5
  have HB5 : Hid (Below w.heap.size w w5) := HB4.out.trans (hB5.mono HB4.out.size)
  have C6 := Lib.hid (bfair_any A ca t w5 (HT.out.later HB5.out))
  have I3 := Lib.hid (I3.out.later hB5)
  have I4 := Lib.hid (I4.out.later hB5)
  clear hB5
  unfold ftup at C6
  rw [HF.out] at C6
  simp only [] at C6
  clear HF
  go_wp2_with fail
  refine C6.out.mono ?_
  rintro e w6 ⟨rfl, hB6⟩
  clear C6
  have HB6 : Hid (Below w.heap.size w w6) := HB5.out.trans (hB6.mono HB5.out.size)
  have C7 := Lib.hid (equal_same R3 R4 c3 c4 m1 w6 (I3.out.later hB6) (I4.out.later hB6))
  clear hB6 I3 I4
  go_wp2_with fail
  refine C7.out.mono ?_
  rintro e w7 ⟨rfl, hB7⟩
  have HB7 : Hid (Below w.heap.size w w7) := HB6.out.trans (hB7.mono HB6.out.size)
  clear hB7
  go_wp2
  go_ret
  exact ⟨rfl, HB7.out⟩
end Go.Proofs.Ytdfhlmacdgmpmaa
