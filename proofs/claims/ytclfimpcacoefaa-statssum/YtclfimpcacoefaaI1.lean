/- The whole numbers of package lotdrawerref in memory, and Int.trim. -/
import Derived.Test.YtclfimpcacoefaaHe
import Derived.Test.YtclfimpcacoefaaMem
namespace Go.Proofs.Ytclfimpcacoefaa
open Go.RowKit

/-- Block g is an Int's two fields. -/
def Hd (w : World) (g : Nat) (neg : Bool) (A : Option Addr) (n c : Nat) : Prop := w.heap[g]? = some (.cells #[.bool neg, .slice A n c] 51 (0, 0))
theorem Hd.lt {w : World} {g : Nat} {neg : Bool} {A : Option Addr} {n c : Nat} (h : Hd w g neg A n c) : g < w.heap.size := lt_of_block h
theorem Hd.cell0 {w : World} {g : Nat} {neg : Bool} {A : Option Addr} {n c : Nat} (h : Hd w g neg A n c) : w.cell? ⟨g, 0, none⟩ = some (.bool neg) := by
  rw [cell_of_row w g 0 _ 51 (0, 0) h]; rfl
theorem Hd.cell1 {w : World} {g : Nat} {neg : Bool} {A : Option Addr} {n c : Nat} (h : Hd w g neg A n c) : w.cell? ⟨g, 1, none⟩ = some (.slice A n c) := by
  rw [cell_of_row w g 1 _ 51 (0, 0) h]; rfl
theorem Hd.frozen {w : World} {g : Nat} {neg : Bool} {A : Option Addr} {n c : Nat} (h : Hd w g neg A n c) (j : Nat) : w.frozen? ⟨g, j, none⟩ = false := frozen_of_row w g j _ 51 h
theorem Hd.set0 {w : World} {g : Nat} {neg : Bool} {A : Option Addr} {n c : Nat} (h : Hd w g neg A n c) (b : Bool) : Hd (w.setCell ⟨g, 0, none⟩ (.bool b)) g b A n c := by
  unfold Hd at h ⊢
  rw [heap_setCell_same w g 0 _ 51 _ h]; rfl
theorem Hd.set1 {w : World} {g : Nat} {neg : Bool} {A : Option Addr} {n c : Nat} (h : Hd w g neg A n c) (B : Option Addr) (m d : Nat) : Hd (w.setCell ⟨g, 1, none⟩ (.slice B m d)) g neg B m d := by
  unfold Hd at h ⊢
  rw [heap_setCell_same w g 1 _ 51 _ h]; rfl

/-- Only block g, and what is new, has turned. -/
theorem grown_set {w w' : World} {g : Nat} (h : w.grownBy w' (some g)) {p : Addr} (hp : p.block = g) (u : Value) : w.grownBy (w'.setCell p u) (some g) :=
  ⟨h.os, h.tape, h.output, by simpa [World.setCell] using h.size, fun i hi hne => (Below.heap_setCell w' p u i (by
    intro e
    exact hne (by rw [e, hp]))).trans (h.block i hi hne)⟩
theorem grown_trans {a b c : World} {g : Nat} (h : a.grownBy b (some g)) (k : b.grownBy c (some g)) : a.grownBy c (some g) :=
  ⟨k.os.trans h.os, k.tape.trans h.tape, k.output.trans h.output, Nat.le_trans h.size k.size, fun i hi hne => (k.block i (Nat.lt_of_lt_of_le hi h.size) hne).trans (h.block i hi hne)⟩
theorem grown_alloc {a b : World} {g : Option Nat} (h : a.grownBy b g) (o : Obj) : a.grownBy (b.alloc o) g :=
  ⟨h.os, h.tape, h.output, Nat.le_trans h.size (by simp), fun i hi hne => (Below.heap_alloc b o i (Nat.lt_of_lt_of_le hi h.size)).trans (h.block i hi hne)⟩
theorem size_set (w : World) (p : Addr) (u : Value) : (w.setCell p u).heap.size = w.heap.size := by simp [World.setCell]
theorem grown_below {a b : World} (h : Below a.heap.size a b) (g : Option Nat) : a.grownBy b g := ⟨h.os, h.tape, h.output, h.size, fun i hi _ => h.block i hi⟩
theorem grown_refl (a : World) (g : Option Nat) : a.grownBy a g := grown_below (Below.refl _ _) g

/-- A header is no row of digits: digits stay as they are while a header turns. -/
theorem Wd_only {w w' : World} {A : Option Addr} {ds : List Nat} {g : Nat} {neg : Bool} {B : Option Addr} {n c : Nat} (h : H.Wd w A ds) (hg : Hd w g neg B n c) (hw : w.grownBy w' (some g)) : H.Wd w' A ds :=
  ⟨h.1, fun h0 => by
    obtain ⟨b, off, rfl, ⟨hlt, cs, fr, hcs⟩, hc⟩ := h.2 h0
    have hne : b ≠ g := by
      intro e
      subst e
      have h1 := hc 0 h0
      rw [cell_of_row w b (off + 0) _ 51 (0, 0) hg] at h1
      match off, h1 with
      | 0, h1 => simp at h1
      | 1, h1 => simp at h1
      | k + 2, h1 => simp at h1
    exact ⟨b, off, rfl, ⟨Nat.lt_of_lt_of_le hlt hw.size, cs, fr, (hw.block b hlt (fun e => hne (by injection e))).trans hcs⟩, fun j hj => (World.cell?_of_block (w := w) (w' := w') (a := ⟨b, off + j, none⟩) (hw.block b hlt (fun e => hne (by injection e)))).trans (hc j hj)⟩⟩

/-- Below 0: said so, and not nothing. -/
def ngOf (neg : Bool) (n : Nat) : Bool := neg && decide (n ≠ 0)
theorem ngOf_zero (neg : Bool) : ngOf neg 0 = false := by unfold ngOf; simp
theorem ngOf_pos (neg : Bool) {n : Nat} (h : n ≠ 0) : ngOf neg n = neg := by unfold ngOf; simp [h]

set_option maxHeartbeats 1000000 in
theorem itrim_any (A : Option Addr) (c g : Nat) (neg : Bool) (ds : List Nat) (w : World) (hh : Hd w g neg A ds.length c) (h : H.Wd w A ds) (hl : ds.length ≤ 12000000000000) (hc : ds.length ≤ c) :
    Calls Try.prog 38 #[.pointer (some ⟨g, 0, none⟩)] w fun e w' => e = .returned (.pointer (some ⟨g, 0, none⟩)) ∧ Hd w' g (ngOf neg (H.val ds)) A (H.words (H.val ds)).length c ∧ w.grownBy w' (some g) := by
  have c0 := hh.cell0
  have c1 := hh.cell1
  have fz := hh.frozen 1
  have fz0 := hh.frozen 0
  have HH := Lib.hid hh
  have H0 := Lib.hid h
  clear hh h
  go_enter Try.func38, Try.ntmps38
  go_wp2
  go_loop [3] (fun t => ∃ k : Nat, k ≤ ds.length ∧ t = .int .i64 k ∧ ∀ j, k ≤ j → H.wd ds j = 0) (fun t => (intOf t).toNat)
  case atStart => exact ⟨ds.length, Nat.le_refl _, rfl, fun j hj => H.wd_out hj⟩
  case round =>
    obtain ⟨k, hk, rfl, hz⟩ := hrel
    have HZ := Lib.hid hz
    clear hz
    by_cases h0 : k = 0
    · subst h0
      have hw := H.words_trim H0.out.1 hk HZ.out (.inl rfl)
      rw [List.take_zero] at hw
      have hv : H.val ds = 0 := by rw [← H.val_words (H.val ds), hw]; rfl
      have E : Hid (Hd ((w.setCell ⟨g, 1, none⟩ (.slice A 0 c)).setCell ⟨g, 0, none⟩ (.bool false)) g (ngOf neg (H.val ds)) A (H.words (H.val ds)).length c) := by
        rw [hw, hv, ngOf_zero]; exact (HH.out.set1 A 0 c).set0 false
      clear hw hv
      have c2 := (HH.out.set1 A 0 c).cell0
      have f2 := (HH.out.set1 A 0 c).frozen 0
      go_wp2
      go_ret
      exact ⟨rfl, E.out, grown_set (p := ⟨g, 0, none⟩) (grown_set (p := ⟨g, 1, none⟩) (grown_refl _ _) rfl _) rfl _⟩
    · obtain ⟨b, off, rfl, _, hcl⟩ := H0.out.2 (by omega)
      obtain ⟨m, rfl⟩ : ∃ m, k = m + 1 := ⟨k - 1, by omega⟩
      have hci := hcl m (by omega)
      clear hcl h0
      by_cases h1 : H.wd ds m = 0
      · rw [h1] at hci
        have H1 := Lib.hid h1
        clear h1
        go_wp2
        go_round
        case rel => exact ⟨m, by omega, by go_num, fun j hj => by
                      by_cases e : j = m
                      · rw [e]; exact H1.out
                      · exact HZ.out j (by omega)⟩
        case measure => simp [intOf]
      · have hw := H.words_trim H0.out.1 hk HZ.out (.inr (by simpa using h1))
        have hlen : (H.words (H.val ds)).length = m + 1 := by rw [hw, List.length_take]; omega
        have hv : H.val ds ≠ 0 := by intro e; rw [e] at hlen; simp [H.words_zero] at hlen
        have E : Hid (Hd (w.setCell ⟨g, 1, none⟩ (.slice (some ⟨b, off, none⟩) (m + 1) c)) g (ngOf neg (H.val ds)) (some ⟨b, off, none⟩) (H.words (H.val ds)).length c) := by
          rw [hlen, ngOf_pos neg hv]; exact HH.out.set1 _ _ _
        have h1' : ((H.wd ds m : Int) == 0) = false := eqz_no h1
        clear h1 hw hlen hv
        go_wp2
        go_ret
        exact ⟨rfl, E.out, grown_set (p := ⟨g, 1, none⟩) (grown_refl _ _) rfl _⟩
end Go.Proofs.Ytclfimpcacoefaa
