/- Whole numbers in memory: what they are, Sign, SetUint64. -/
import Derived.Test.YtclfimpcacoefaaI1
import Derived.Test.YtclfimpcacoefaaBb
namespace Go.Proofs.Ytclfimpcacoefaa
open Go.RowKit

/-- The number with a sign and a size. -/
def sgn (neg : Bool) (n : Nat) : Int := if neg = true then -(n : Int) else (n : Int)
theorem sgn_abs (neg : Bool) (n : Nat) : (sgn neg n).natAbs = n := by unfold sgn; split <;> omega
theorem sgn_neg (neg : Bool) (n : Nat) : decide (sgn neg n < 0) = ngOf neg n := by
  unfold sgn ngOf
  cases neg
  · simp
  · by_cases h : n = 0
    · subst h; rfl
    · simp only [if_true, Bool.true_and]
      rw [decide_eq_decide]; omega
theorem sgn_self (z : Int) : sgn (decide (z < 0)) z.natAbs = z := by unfold sgn; split <;> simp_all <;> omega

/-- Block g is an Int that is z. -/
def IsI (w : World) (g : Nat) (z : Int) : Prop :=
  ∃ A c, Hd w g (decide (z < 0)) A (H.words z.natAbs).length c ∧ H.Wd w A (H.words z.natAbs) ∧ (H.words z.natAbs).length ≤ c
/-- Block g is an Int, whatever it is. -/
def IsH (w : World) (g : Nat) : Prop := ∃ neg A n c, Hd w g neg A n c

theorem IsI.hd {w : World} {g : Nat} {z : Int} (h : IsI w g z) : IsH w g := by
  obtain ⟨A, c, h1, _⟩ := h
  exact ⟨_, A, _, c, h1⟩
theorem IsH.lt {w : World} {g : Nat} (h : IsH w g) : g < w.heap.size := by
  obtain ⟨_, _, _, _, h⟩ := h
  exact h.lt
theorem IsI.lt {w : World} {g : Nat} {z : Int} (h : IsI w g z) : g < w.heap.size := h.hd.lt
theorem Hd.other {w w' : World} {b g : Nat} {neg : Bool} {A : Option Addr} {n c : Nat} (h : Hd w b neg A n c) (hne : b ≠ g) (hw : w.grownBy w' (some g)) : Hd w' b neg A n c :=
  (hw.block b h.lt (fun e => hne (by injection e))).trans h
theorem IsI.only {w w' : World} {b g : Nat} {z : Int} (h : IsI w b z) (hg : IsH w g) (hne : b ≠ g) (hw : w.grownBy w' (some g)) : IsI w' b z := by
  obtain ⟨A, c, h1, h2, h3⟩ := h
  obtain ⟨_, _, _, _, h4⟩ := hg
  exact ⟨A, c, h1.other hne hw, Wd_only h2 h4 hw, h3⟩
theorem IsH.only {w w' : World} {b g : Nat} (h : IsH w b) (hne : b ≠ g) (hw : w.grownBy w' (some g)) : IsH w' b := by
  obtain ⟨n, A, m, c, h1⟩ := h
  exact ⟨n, A, m, c, h1.other hne hw⟩
theorem Hd.below {w w' : World} {b : Nat} {neg : Bool} {A : Option Addr} {n c : Nat} (h : Hd w b neg A n c) (hw : Below w.heap.size w w') : Hd w' b neg A n c := (hw.block b h.lt).trans h
theorem IsI.below {w w' : World} {b : Nat} {z : Int} (h : IsI w b z) (hw : Below w.heap.size w w') : IsI w' b z := by
  obtain ⟨A, c, h1, h2, h3⟩ := h
  exact ⟨A, c, h1.below hw, h2.below hw, h3⟩
theorem IsH.below {w w' : World} {b : Nat} (h : IsH w b) (hw : Below w.heap.size w w') : IsH w' b := by
  obtain ⟨n, A, m, c, h1⟩ := h
  exact ⟨n, A, m, c, h1.below hw⟩
/-- A new Int. -/
theorem IsI.new (w : World) : IsI (w.alloc (.cells #[.bool false, .slice none 0 0] 51)) w.heap.size 0 := ⟨none, 0, heap_alloc_new w _, H.Wd.nil, by simp [H.words_zero]⟩
/-- Behind trim. -/
theorem IsI.mk {w : World} {g : Nat} {neg : Bool} {n : Nat} {A : Option Addr} {c : Nat} (h1 : Hd w g (ngOf neg n) A (H.words n).length c) (h2 : H.Wd w A (H.words n)) (h3 : (H.words n).length ≤ c) : IsI w g (sgn neg n) := by
  unfold IsI
  rw [sgn_abs, sgn_neg]
  exact ⟨A, c, h1, h2, h3⟩
/-- Trim, whole: fields with whatever digits become the number that they make. -/
theorem itrim_is (A : Option Addr) (c g : Nat) (neg : Bool) (ds : List Nat) (w : World) (hh : Hd w g neg A ds.length c) (h : H.Wd w A ds) (hl : ds.length ≤ 12000000000000) (hc : ds.length ≤ c) :
    Calls Try.prog 38 #[.pointer (some ⟨g, 0, none⟩)] w fun e w' => e = .returned (.pointer (some ⟨g, 0, none⟩)) ∧ IsI w' g (sgn neg (H.val ds)) ∧ w.grownBy w' (some g) := by
  refine (itrim_any A c g neg ds w hh h hl hc).mono ?_
  rintro e w' ⟨rfl, h1, h2⟩
  refine ⟨rfl, IsI.mk h1 ?_ ?_, h2⟩
  · obtain ⟨n, hn⟩ := H.words_is_take h.1
    have := (Wd_only h hh h2).take n
    rwa [← hn] at this
  · exact Nat.le_trans ((H.words_len _ _).2 (H.val_lt h.1)) hc

/-- Not too many digits. -/
def Bh : Nat := 4294967296
/-- So many digits at most. -/
structure DL (z : Int) (k : Nat) : Prop where
  out : (H.words z.natAbs).length ≤ k
theorem DL.up {z : Int} {k m : Nat} (h : DL z k) (hk : k ≤ m) : DL z m := ⟨Nat.le_trans h.out hk⟩
theorem DL.of_pow {z : Int} {k : Nat} (h : z.natAbs < Bh ^ k) : DL z k := ⟨(H.words_len _ _).2 h⟩
theorem digits_le {z : Int} {k : Nat} (h : z.natAbs < Bh ^ k) : (H.words z.natAbs).length ≤ k := (H.words_len _ _).2 h

set_option maxHeartbeats 400000 in
theorem isetU_any (g n : Nat) (w : World) (h : IsH w g) (hn : n < 18446744073709551616) :
    Calls Try.prog 43 #[.pointer (some ⟨g, 0, none⟩), .int .u64 (n : Int)] w fun e w' => e = .returned (.pointer (some ⟨g, 0, none⟩)) ∧ IsI w' g n ∧ w.grownBy w' (some g) := by
  obtain ⟨neg, A, m, c, hh⟩ := h
  have c0 := hh.cell0
  have c1 := hh.cell1
  have f0 := hh.frozen 0
  have f1 := hh.frozen 1
  have hlt := hh.lt
  have HH := Lib.hid hh
  have hW : Hid (Hd (((w.setCell ⟨g, 0, none⟩ (.bool false)).setCell ⟨g, 1, none⟩ (.slice (some ⟨w.heap.size, 0, none⟩) 2 2)).alloc (.cells #[.int .u32 ((n : Int) % 4294967296), .int .u32 ((n : Int) / 4294967296)] 63)) g false (some ⟨w.heap.size, 0, none⟩) 2 2) :=
    ((hh.set0 false).set1 _ _ _).below ((Below.refl _ _).alloc (Nat.le_refl _) _)
  have hD : H.Wd (((w.setCell ⟨g, 0, none⟩ (.bool false)).setCell ⟨g, 1, none⟩ (.slice (some ⟨w.heap.size, 0, none⟩) 2 2)).alloc (.cells #[.int .u32 ((n : Int) % 4294967296), .int .u32 ((n : Int) / 4294967296)] 63)) (some ⟨w.heap.size, 0, none⟩) [n % 4294967296, n / 4294967296] := by
    have hB : H.Bk (((w.setCell ⟨g, 0, none⟩ (.bool false)).setCell ⟨g, 1, none⟩ (.slice (some ⟨w.heap.size, 0, none⟩) 2 2)).alloc (.cells #[.int .u32 ((n : Int) % 4294967296), .int .u32 ((n : Int) / 4294967296)] 63)) w.heap.size [n % 4294967296, n / 4294967296] := by
      unfold H.Bk
      have := heap_alloc_new ((w.setCell ⟨g, 0, none⟩ (.bool false)).setCell ⟨g, 1, none⟩ (.slice (some ⟨w.heap.size, 0, none⟩) 2 2)) (.cells #[.int .u32 ((n : Int) % 4294967296), .int .u32 ((n : Int) / 4294967296)] 63)
      rw [size_set, size_set] at this
      rw [this]
      rfl
    exact hB.wd (H.Sm.cons (by unfold H.Bw; omega) (H.Sm.one (by unfold H.Bw; omega)))
  have hv : H.val [n % 4294967296, n / 4294967296] = n := by simp only [H.val, H.Bw]; omega
  have C := itrim_is (some ⟨w.heap.size, 0, none⟩) 2 g false [n % 4294967296, n / 4294967296] _ hW.out hD (by simp) (by simp)
  rw [hv, show sgn false n = (n : Int) from rfl] at C
  have HC := Lib.hid C
  have HG : Hid (w.grownBy (((w.setCell ⟨g, 0, none⟩ (.bool false)).setCell ⟨g, 1, none⟩ (.slice (some ⟨w.heap.size, 0, none⟩) 2 2)).alloc (.cells #[.int .u32 ((n : Int) % 4294967296), .int .u32 ((n : Int) / 4294967296)] 63)) (some g)) :=
    grown_alloc (grown_set (p := ⟨g, 1, none⟩) (grown_set (p := ⟨g, 0, none⟩) (grown_refl _ _) rfl _) rfl _) _
  clear hh hW hD hv C
  go_enter Try.func43, Try.ntmps43
  go_wp2_with fail
  refine HC.out.mono ?_
  rintro e w' ⟨rfl, h1, h2⟩
  have H1 := Lib.hid h1
  have H2 := Lib.hid h2
  clear h1 h2
  go_wp2
  go_ret
  exact ⟨rfl, H1.out, grown_trans HG.out H2.out⟩
end Go.Proofs.Ytclfimpcacoefaa
