/- lotdrawerlaw.PermRanks: the walk. -/
import Derived.Test.YtbchdnmpohnkiaaS1
import Derived.Test.YtbchdnmpohnkiaaS3
import Derived.Test.YtbchdnmpohnkiaaS4
import Derived.Test.YtbchdnmpohnkiaaP3
import Derived.Test.YtbchdnmpohnkiaaT5
namespace Go.Proofs.Ytbchdnmpohnkiaa
open Go.RowKit Go.Deep

set_option maxRecDepth 100000 in
set_option maxHeartbeats 4000000 in
theorem permRanks_walk (A : Option Addr) (ca : Nat) (p : List Int) (n r : Int) (w : World) (hp : IP w A ca p) (hr : r ≤ 9223372036854775807) :
    Calls Try.prog 4 #[.slice A p.length ca, .int .i64 n, .int .i64 r] w fun e w' => e = .returned (.bool true) ∧ Below w.heap.size w w' := by
  have hle := hp.le
  have hcap := hp.cap
  have HP := Lib.hid hp
  have C1 := Lib.hid (permRank_any A ca p w hp)
  unfold ptup at C1
  obtain ⟨⟨a0, e0⟩, hR⟩ : ∃ q, rankR p = q := ⟨_, rfl⟩
  rw [hR] at C1
  have HR := Lib.hid hR
  clear hp hR
  simp only [] at C1
  go_enter Try.func4, Try.ntmps4
  go_wp2_with fail
  refine C1.out.mono ?_
  rintro e w1 ⟨rfl, hB1⟩
  have HB := Lib.hid hB1
  have C2 := Lib.hid (permAt_any n r w1 hr)
  clear C1 hB1
  go_wp2_with fail
  refine C2.out.mono ?_
  rintro e w2 ⟨R2, c2, rfl, hI2, hB2⟩
  have I2 := Lib.hid hI2
  have HB := Lib.hid (HB.out.trans (hB2.mono HB.out.size))
  have C3 := Lib.hid (dat_any n r w2 hr)
  clear C2 hI2 hB2
  unfold ltup
  go_wp2_with fail
  refine C3.out.mono ?_
  rintro e w3 ⟨R3, c3, rfl, hI3, hB3⟩
  have I2 := Lib.hid (I2.out.later hB3)
  have I3 := Lib.hid hI3
  have HB := Lib.hid (HB.out.trans (hB3.mono HB.out.size))
  clear C3 hI3 hB3
  unfold ltup
  obtain ⟨⟨L, e1⟩, hL⟩ : ∃ q, atR n r = q := ⟨_, rfl⟩
  rw [hL] at I2 I3 ⊢
  have hb : L.length ≤ 9223372036854775807 := by have h1 := I2.out.le; have h2 := I2.out.cap; simp only [] at h1; omega
  clear hL
  simp only [] at I2 I3 ⊢
  have te : (e1 != e1) = false := by simp
  have C4 := Lib.hid (iequal_any R2 R3 c2 c3 L L w3 I2.out.il I3.out.il hb hb)
  rw [decide_eq_true rfl] at C4
  clear I2 I3
  go_wp2_with fail
  refine C4.out.mono ?_
  rintro e w4 ⟨rfl, hB4⟩
  have HB := Lib.hid (HB.out.trans (hB4.mono HB.out.size))
  have C5 := Lib.hid (dright_any A ca p w4 (HP.out.later HB.out))
  clear C4 hB4
  by_cases hok : Ok p
  · have h := HR.out
    unfold rankR at h
    rw [if_pos hok] at h
    cases h
    rw [decide_eq_true hok] at C5
    have C6 := Lib.hid (drank_any p hok.1 A ca w4 (HP.out.later HB.out))
    clear hok HR
    go_wp2_with fail
    refine C5.out.mono ?_
    rintro e w5 ⟨rfl, rfl⟩
    clear C5
    generalize rank p = k at *
    go_wp2_with fail
    refine C6.out.mono ?_
    rintro e w6 ⟨rfl, hB6⟩
    have HB := Lib.hid (HB.out.trans (hB6.mono HB.out.size))
    clear C6 hB6
    go_wp2
    go_ret
    exact ⟨rfl, HB.out⟩
  · have h := HR.out
    unfold rankR at h
    rw [if_neg hok] at h
    cases h
    rw [decide_eq_false hok] at C5
    clear hok HR
    go_wp2_with fail
    refine C5.out.mono ?_
    rintro e w5 ⟨rfl, rfl⟩
    clear C5
    go_wp2
    go_ret
    exact ⟨rfl, HB.out⟩
end Go.Proofs.Ytbchdnmpohnkiaa
