import Derived.Test.YtcfiigodefkncaaPy
import Derived.Test.YtcfiigodefkncaaDg
import Derived.Test.YtcfiigodefkncaaIxo
import Derived.Test.YtcfiigodefkncaaGa
/- Int.Mod by 2 ^ 64, lotdrawerref.LMix. -/
namespace Go.Proofs.Ytcfiigodefkncaa
open Go.RowKit Go.Deep

theorem words64 : H.words 18446744073709551616 = [0, 0, 1] := by
  rw [H.words_pos (by decide), H.words_pos (by decide), H.words_pos (by decide)]
  rfl
theorem partsOk3 {X : Nat} (hX : (H.words X).length ≤ 400000) (h3 : 3 ≤ (H.words X).length) : PartsOk X 18446744073709551616 := by
  intro A B ca cb w ha hb
  rw [words64] at hb ⊢
  have := parts3_any A B ca cb (H.words X) w ha hb hX h3
  rwa [H.val_words, show H.val [0, 0, 1] = 18446744073709551616 from rfl] at this
/-- Numbers of at most so many digits. -/
theorem dig_lt {X k : Nat} (h : X < H.Bw ^ k) : (H.words X).length ≤ k := (H.words_len X k).2 h
theorem sz9_of {X : Nat} (h : X < H.Bw ^ 5) : Sz9 X := ⟨pow_up (a := 5) (b := 900000) (by exact h) (by decide)⟩

set_option maxHeartbeats 1000000 in
/-- z.Mod(x, 2 ^ 64). -/
theorem imod_any (g bx bY X : Nat) (w : World) (hg : IsH w g) (hx : IsI w bx (X : Int)) (hy : IsI w bY ((18446744073709551616 : Nat) : Int)) (hX : X < H.Bw ^ 5) :
    Calls Try.prog 31 #[.pointer (some ⟨g, 0, none⟩), .pointer (some ⟨bx, 0, none⟩), .pointer (some ⟨bY, 0, none⟩)] w fun e w' => e = .returned (.pointer (some ⟨g, 0, none⟩)) ∧ IsI w' g ((X % 18446744073709551616 : Nat) : Int) ∧ w.grownBy w' (some g) := by
  have hal := below_hdr w
  have lg : g < w.heap.size := by obtain ⟨_, _, _, _, h⟩ := hg; exact h.lt
  have lx := hx.lt
  have ly := hy.lt
  have C := divmod_any w.heap.size bx bY g X 18446744073709551616 _ (IsI.new w).hd (hg.below hal) (hx.below hal) (hy.below hal) (by omega) (by omega) (by omega) (sz9_of hX) (sz9_of (by decide)) (by decide) (fun h3 => partsOk3 (Nat.le_trans (dig_lt hX) (by omega)) h3)
  have HC := Lib.hid C
  have HAL := Lib.hid hal
  have LG := Lib.hid lg
  clear C hal lg lx ly hg hx hy hX
  go_enter Try.func31, Try.ntmps31
  go_wp2_with fail
  refine HC.out.mono ?_
  rintro e w2 ⟨rfl, _, i3, k⟩
  have I3 := Lib.hid i3
  have HK : Hid (w.grownBy w2 (some g)) := ⟨k.os.trans HAL.out.os, k.tape.trans HAL.out.tape, k.output.trans HAL.out.output, Nat.le_trans HAL.out.size k.size, fun i hi hne => (k.block i (Nat.lt_of_lt_of_le hi HAL.out.size) (by omega) (fun e => hne (by rw [e]))).trans (HAL.out.block i hi)⟩
  clear i3 k HC HAL
  go_wp2
  go_ret
  exact ⟨rfl, I3.out, HK.out⟩
end Go.Proofs.Ytcfiigodefkncaa
