/- bottom: Mix and Unmix over words; rows sorted by a rank; sketches. -/
import Derived.Test.YtcfiigodefkncaaU0
namespace Go.Proofs.Ytcfiigodefkncaa
set_option linter.unusedSectionVars false
/-! Mix and Unmix -/
def shx (k : Nat) (x : W64) : W64 := x ^^^ (x >>> k)
theorem shx_shx (k : Nat) (x : W64) : shx k (shx k x) = shx (2 * k) x := by
  unfold shx
  rw [BitVec.ushiftRight_xor_distrib, ← BitVec.shiftRight_add, ← Nat.two_mul, ← BitVec.xor_assoc, BitVec.xor_assoc x, BitVec.xor_self, BitVec.xor_zero]
theorem shx_big {k : Nat} (h : 64 ≤ k) (x : W64) : shx k x = x := by
  unfold shx
  have : x >>> k = 0#64 := by
    apply BitVec.eq_of_toNat_eq
    rw [BitVec.toNat_ushiftRight, Nat.shiftRight_eq_div_pow]
    have h1 := x.isLt
    have h2 : 2 ^ 64 ≤ 2 ^ k := Nat.pow_le_pow_right (by decide) h
    have : x.toNat / 2 ^ k = 0 := Nat.div_eq_of_lt (by omega)
    rw [this]; rfl
  rw [this, BitVec.xor_zero]
theorem shx_comm (a b : Nat) (x : W64) : shx a (shx b x) = shx b (shx a x) := by
  unfold shx
  rw [BitVec.ushiftRight_xor_distrib, BitVec.ushiftRight_xor_distrib, ← BitVec.shiftRight_add, ← BitVec.shiftRight_add, Nat.add_comm b a]
  rw [BitVec.xor_assoc, BitVec.xor_assoc]
  congr 1
  rw [← BitVec.xor_assoc, ← BitVec.xor_assoc, BitVec.xor_comm (x >>> b)]
def unsh (k : Nat) (x : W64) : W64 := shx (2 * k) (shx k x)
theorem unsh_shx {k : Nat} (h : 64 ≤ 2 * (2 * k)) (x : W64) : unsh k (shx k x) = x := by
  unfold unsh
  rw [shx_shx, shx_shx, shx_big h]
theorem shx_unsh {k : Nat} (h : 64 ≤ 2 * (2 * k)) (x : W64) : shx k (unsh k x) = x := by
  unfold unsh
  rw [shx_comm, shx_shx, shx_shx, shx_big h]
def K1 : W64 := 0xbf58476d1ce4e5b9#64
def K2 : W64 := 0x94d049bb133111eb#64
def D1 : W64 := 0x96de1b173f119089#64
def D2 : W64 := 0x319642b2d24d8ec3#64
theorem mul_D1 (x : W64) : x * K1 * D1 = x := by
  rw [BitVec.mul_assoc, show K1 * D1 = 1#64 by decide, BitVec.mul_one]
theorem mul_K1 (x : W64) : x * D1 * K1 = x := by
  rw [BitVec.mul_assoc, show D1 * K1 = 1#64 by decide, BitVec.mul_one]
theorem mul_D2 (x : W64) : x * K2 * D2 = x := by
  rw [BitVec.mul_assoc, show K2 * D2 = 1#64 by decide, BitVec.mul_one]
theorem mul_K2 (x : W64) : x * D2 * K2 = x := by
  rw [BitVec.mul_assoc, show D2 * K2 = 1#64 by decide, BitVec.mul_one]
def mix (x : W64) : W64 := shx 31 (shx 27 (shx 30 x * K1) * K2)
def unmix (x : W64) : W64 := unsh 30 (unsh 27 (unsh 31 x * D2) * D1)
theorem unmix_mix (x : W64) : unmix (mix x) = x := by
  unfold unmix mix
  rw [unsh_shx (by decide), mul_D2, unsh_shx (by decide), mul_D1, unsh_shx (by decide)]
theorem mix_unmix (x : W64) : mix (unmix x) = x := by
  unfold unmix mix
  rw [shx_unsh (by decide), mul_K1, shx_unsh (by decide), mul_K2, shx_unsh (by decide)]
theorem mix_inj {x y : W64} (h : mix x = mix y) : x = y := by
  rw [← unmix_mix x, ← unmix_mix y, h]
def rk (s x : W64) : Nat := (mix (x ^^^ s)).toNat
theorem rk_inj {s x y : W64} (h : rk s x = rk s y) : x = y := by
  have h1 := mix_inj (BitVec.eq_of_toNat_eq h)
  have h2 : (x ^^^ s) ^^^ s = (y ^^^ s) ^^^ s := by rw [h1]
  simpa [BitVec.xor_assoc] using h2

/-! rows sorted by a rank -/
section
variable {α : Type} [DecidableEq α] (r : α → Nat)
def Ra (l : List α) : Prop := l.Pairwise fun x y => r x < r y
/-- Two rows that increase strictly and have the same members are the same. -/
theorem ra_eq (hr : ∀ x y, r x = r y → x = y) : ∀ {l m : List α}, Ra r l → Ra r m → (∀ x, x ∈ l ↔ x ∈ m) → l = m
  | [], [], _, _, _ => rfl
  | [], b :: m, _, _, h => by have := (h b).2 (by simp); simp at this
  | a :: l, [], _, _, h => by have := (h a).1 (by simp); simp at this
  | a :: l, b :: m, hl, hm, h => by
    have h1 := List.pairwise_cons.1 hl
    have h2 := List.pairwise_cons.1 hm
    have e : a = b := by
      have ha := (h a).1 (by simp)
      have hb := (h b).2 (by simp)
      rcases List.mem_cons.1 ha with ha | ha
      · exact ha
      · rcases List.mem_cons.1 hb with hb | hb
        · exact hb.symm
        · have := h1.1 b hb; have := h2.1 a ha; omega
    subst e
    congr 1
    refine ra_eq hr h1.2 h2.2 fun x => ?_
    constructor
    · intro hx
      rcases List.mem_cons.1 ((h x).1 (by simp [hx])) with e | e
      · subst e; have := h1.1 x hx; omega
      · exact e
    · intro hx
      rcases List.mem_cons.1 ((h x).2 (by simp [hx])) with e | e
      · subst e; have := h2.1 x hx; omega
      · exact e

/-- Put x in, if it isn't there. -/
def ins (x : α) : List α → List α
  | [] => [x]
  | y :: l => if r x < r y then x :: y :: l else if r x = r y then y :: l else y :: ins x l
theorem mem_ins (hr : ∀ x y, r x = r y → x = y) {x z : α} : ∀ {l : List α}, z ∈ ins r x l ↔ z = x ∨ z ∈ l
  | [] => by simp [ins]
  | y :: l => by
    unfold ins
    split
    · simp
    · split
      · rename_i h1 h2
        have := hr _ _ h2
        subst this
        simp
      · rw [List.mem_cons, mem_ins hr, List.mem_cons]
        grind
theorem ins_ra (hr : ∀ x y, r x = r y → x = y) {x : α} : ∀ {l : List α}, Ra r l → Ra r (ins r x l)
  | [], _ => by simp [ins, Ra]
  | y :: l, h => by
    have h1 := List.pairwise_cons.1 h
    unfold ins
    split
    · rename_i h2
      refine List.pairwise_cons.2 ⟨fun z hz => ?_, h⟩
      rcases List.mem_cons.1 hz with e | e
      · subst e; exact h2
      · have := h1.1 z e; omega
    · split
      · exact h
      · rename_i h2 h3
        refine List.pairwise_cons.2 ⟨fun z hz => ?_, ins_ra hr h1.2⟩
        rcases (mem_ins r hr).1 hz with e | e
        · subst e; omega
        · exact h1.1 z e
/-- All of them, by rank, each once. -/
def ful (l : List α) : List α := l.foldr (ins r) []
theorem mem_ful (hr : ∀ x y, r x = r y → x = y) {z : α} : ∀ {l : List α}, z ∈ ful r l ↔ z ∈ l
  | [] => by simp [ful]
  | x :: l => by
    show z ∈ ins r x (ful r l) ↔ _
    rw [mem_ins r hr, mem_ful hr]
    simp
theorem ful_ra (hr : ∀ x y, r x = r y → x = y) : ∀ (l : List α), Ra r (ful r l)
  | [] => List.Pairwise.nil
  | x :: l => ins_ra r hr (ful_ra hr l)
theorem ful_of (hr : ∀ x y, r x = r y → x = y) {l m : List α} (h : Ra r m) (hm : ∀ x, x ∈ m ↔ x ∈ l) : m = ful r l :=
  ra_eq r hr h (ful_ra r hr l) fun x => by rw [hm, mem_ful r hr]
theorem ful_congr (hr : ∀ x y, r x = r y → x = y) {l m : List α} (h : ∀ x, x ∈ l ↔ x ∈ m) : ful r l = ful r m :=
  ful_of r hr (ful_ra r hr l) fun x => by rw [mem_ful r hr, h]
theorem ful_self (hr : ∀ x y, r x = r y → x = y) {l : List α} (h : Ra r l) : ful r l = l := (ful_of r hr h fun _ => Iff.rfl).symm

/-- What stands first of many stands first of fewer, if it's there. -/
theorem take_of_sub (hr : ∀ x y, r x = r y → x = y) : ∀ {S T : List α} (k : Nat), Ra r S → Ra r T → (∀ x, x ∈ T → x ∈ S) → (∀ x, x ∈ S.take k → x ∈ T) → T.take k = S.take k
  | _, _, 0, _, _, _, _ => by simp
  | [], T, k + 1, _, _, h, _ => by
    have : T = [] := List.eq_nil_iff_forall_not_mem.2 fun x hx => by have := h x hx; simp at this
    rw [this]
  | s :: S, [], k + 1, _, _, _, h => by have := h s (by simp); simp at this
  | s :: S, t :: T, k + 1, hS, hT, h1, h2 => by
    have a1 := List.pairwise_cons.1 hS
    have a2 := List.pairwise_cons.1 hT
    have e : s = t := by
      have hs := h2 s (by simp)
      have ht := h1 t (by simp)
      rcases List.mem_cons.1 hs with hs | hs
      · exact hs
      · rcases List.mem_cons.1 ht with ht | ht
        · exact ht.symm
        · have := a1.1 t ht; have := a2.1 s hs; omega
    subst e
    rw [List.take_succ_cons, List.take_succ_cons]
    congr 1
    refine take_of_sub hr k a1.2 a2.2 (fun x hx => ?_) fun x hx => ?_
    · rcases List.mem_cons.1 (h1 x (by simp [hx])) with e | e
      · subst e; have := a2.1 x hx; omega
      · exact e
    · rcases List.mem_cons.1 (h2 x (by simp [hx])) with e | e
      · subst e; have := a1.1 x (List.mem_of_mem_take hx); omega
      · exact e
/-- Of a part, what's first in all is first in it. -/
theorem take_mem (hr : ∀ x y, r x = r y → x = y) : ∀ {S X : List α} (k : Nat), Ra r S → Ra r X → (∀ x, x ∈ X → x ∈ S) → ∀ x, x ∈ S.take k → x ∈ X → x ∈ X.take k
  | _, _, 0, _, _, _, x, hx, _ => by simp at hx
  | [], X, k + 1, _, _, _, x, hx, _ => by simp at hx
  | s :: S, [], k + 1, _, _, _, x, _, hx => by simp at hx
  | s :: S, t :: X, k + 1, hS, hX, h1, x, hx, hxX => by
    have a1 := List.pairwise_cons.1 hS
    have a2 := List.pairwise_cons.1 hX
    rw [List.take_succ_cons]
    rcases List.mem_cons.1 hxX with e | e
    · subst e; simp
    · refine List.mem_cons_of_mem _ ?_
      rw [List.take_succ_cons] at hx
      by_cases est : s = t
      · subst est
        rcases List.mem_cons.1 hx with e2 | e2
        · subst e2; have := a2.1 x e; omega
        · refine take_mem hr k a1.2 a2.2 (fun y hy => ?_) x e2 e
          rcases List.mem_cons.1 (h1 y (by simp [hy])) with e3 | e3
          · subst e3; have := a2.1 y hy; omega
          · exact e3
      · have ht : t ∈ S := by
          rcases List.mem_cons.1 (h1 t (by simp)) with e3 | e3
          · exact absurd e3.symm est
          · exact e3
        have hst := a1.1 t ht
        rcases List.mem_cons.1 hx with e2 | e2
        · subst e2; have := a2.1 x e; omega
        · refine take_mem hr k a1.2 a2.2 (fun y hy => ?_) x e2 e
          rcases List.mem_cons.1 (h1 y (by simp [hy])) with e3 | e3
          · subst e3; have := a2.1 y hy; omega
          · exact e3
def ske (k : Nat) (l : List α) : List α := (ful r l).take k
theorem take_ra {l : List α} (h : Ra r l) (k : Nat) : Ra r (l.take k) := List.Pairwise.sublist (List.take_sublist k l) h
/-- Sketches of parts join to the sketch of the whole. -/
theorem ske_join (hr : ∀ x y, r x = r y → x = y) (k : Nat) (l m : List α) : ske r k (ske r k l ++ ske r k m) = ske r k (l ++ m) := by
  have hS := ful_ra r hr (l ++ m)
  refine take_of_sub r hr k hS (ful_ra r hr _) (fun x hx => ?_) fun x hx => ?_
  · rw [mem_ful r hr] at hx ⊢
    rcases List.mem_append.1 hx with h | h
    · exact List.mem_append_left _ ((mem_ful r hr).1 (List.mem_of_mem_take h))
    · exact List.mem_append_right _ ((mem_ful r hr).1 (List.mem_of_mem_take h))
  · rw [mem_ful r hr]
    rcases List.mem_append.1 ((mem_ful r hr).1 (List.mem_of_mem_take hx)) with h | h
    · refine List.mem_append_left _ (take_mem r hr k hS (ful_ra r hr l) (fun y hy => ?_) x hx ((mem_ful r hr).2 h))
      rw [mem_ful r hr] at hy ⊢
      exact List.mem_append_left _ hy
    · refine List.mem_append_right _ (take_mem r hr k hS (ful_ra r hr m) (fun y hy => ?_) x hx ((mem_ful r hr).2 h))
      rw [mem_ful r hr] at hy ⊢
      exact List.mem_append_right _ hy
theorem ske_congr (hr : ∀ x y, r x = r y → x = y) {l m : List α} (h : ∀ x, x ∈ l ↔ x ∈ m) (k : Nat) : ske r k l = ske r k m := by
  unfold ske; rw [ful_congr r hr h]
theorem ske_len (k : Nat) (l : List α) : (ske r k l).length ≤ k := by unfold ske; simp; omega
theorem ske_ra (hr : ∀ x y, r x = r y → x = y) (k : Nat) (l : List α) : Ra r (ske r k l) := take_ra r (ful_ra r hr l) k
theorem ske_self (hr : ∀ x y, r x = r y → x = y) {k : Nat} {l : List α} (h : Ra r l) (hk : l.length ≤ k) : ske r k l = l := by
  unfold ske; rw [ful_self r hr h, List.take_of_length_le hk]
/-- Joined with itself it is itself. -/
theorem ske_same (hr : ∀ x y, r x = r y → x = y) (k : Nat) (l : List α) : ske r k (ske r k l ++ ske r k l) = ske r k l := by
  rw [ske_join r hr]
  exact ske_congr r hr (fun x => by simp) k
theorem ske_less {k j : Nat} (h : j ≤ k) (l : List α) : ske r j l = (ske r k l).take j := by
  unfold ske; rw [List.take_take, Nat.min_eq_left h]
/-- Each the same number of times: no two the same. -/
theorem ra_nodup {l : List α} (h : Ra r l) : l.Nodup := List.Pairwise.imp (fun hxy e => by subst e; omega) h
end
end Go.Proofs.Ytcfiigodefkncaa
