import Derived.Test.YtcfiigodefkncaaDc
import Derived.Deep.DeepFit
import Derived.Deep.DeepCutAuto
/- lotdrawerref.parts where the divisor is 2 ^ 64: what a long division by it does. -/
namespace Go.Proofs.Ytcfiigodefkncaa
open Go.RowKit Go.Deep

theorem shl_one3 {y s : Nat} (h : y * 2 ^ s < 4294967296) : IntKind.u32.wrap ((y : Int) * 2 ^ s) = ((y * 2 ^ s : Nat) : Int) := by
  rw [pow_cast, castM]; exact wraps_u32 _ (by omega) (by omega)
/-- What shiftLeft makes, at a world behind w. -/
def Own3 (w' : World) (X n s : Nat) (e : Ending) (w2 : World) : Prop :=
  ∃ zs, e = .returned (.slice (some ⟨w'.heap.size, 0, none⟩) n n) ∧ H.Bk w2 w'.heap.size zs ∧ H.Sm zs ∧ zs.length = n ∧ H.val zs = X * 2 ^ s ∧ Below w'.heap.size w' w2
theorem own3_of {A : Option Addr} {ca s : Nat} {xs : List Nat} {w w' : World} (ha : H.Wd w A xs) (hx : xs.length ≤ 400000) (hs : s ≤ 31) (hb : Below w.heap.size w w') :
    Calls Try.prog 33 #[.slice A xs.length ca, .int .i64 (s : Int)] w' fun e w2 => Own3 w' (H.val xs) (xs.length + 1) s e w2 := by
  refine (shiftLeft_own A ca s 0 s xs w' (ha.below hb) hx (Lib.hid (by omega)) (by omega) (by omega)).mono ?_
  rintro e w2 ⟨zs, rfl, h1, h2, h3, h4, h5⟩
  exact ⟨zs, by rw [h3], h1, h2, h3, h4, h5⟩
/-- The divisor, moved. -/
def V3 : Nat := 39614081257132168796771975168
theorem vs_norm3 {vs : List Nat} (hs : H.Sm vs) (hl : vs.length = 4) (hv : H.val vs = V3) : vs = [0, 0, 2147483648, 0] := by
  match vs, hl with
  | [a0, a1, a2, a3], _ =>
    have b0 : a0 < 4294967296 := hs a0 (by simp)
    have b1 : a1 < 4294967296 := hs a1 (by simp)
    have b2 : a2 < 4294967296 := hs a2 (by simp)
    have b3 : a3 < 4294967296 := hs a3 (by simp)
    simp only [H.val, H.Bw, V3] at hv
    have h3 : a3 = 0 := by omega
    subst h3
    have h2 : a2 = 2147483648 := by omega
    subst h2
    have h1 : a1 = 0 := by omega
    subst h1
    have h0 : a0 = 0 := by omega
    subst h0
    rfl
/-- The digits from place k on are divided. -/
structure F3 (zs : List Nat) (k : Nat) (us ds : List Nat) : Prop where
  l : us.length = zs.length
  su : H.Sm us
  sd : H.Sm ds
  d : ds.length + k + 3 = zs.length
  low : ∀ j, j < k → H.wd us j = H.wd zs j
  top : H.wd us (k + 2) < 2147483648
  v : H.val ds * V3 + (H.wd us k + H.Bw * (H.wd us (k + 1) + H.Bw * H.wd us (k + 2))) = H.val (zs.drop k)
theorem F3.start {zs : List Nat} {n : Nat} (hn : zs.length = n + 3) (hs : H.Sm zs) (hV : H.wd zs (n + 2) < 2147483648) : F3 zs n zs [] := by
  refine ⟨rfl, hs, H.Sm.nil, by simp; omega, fun _ _ => rfl, hV, ?_⟩
  rw [H.drop_val (by omega), H.drop_val (by omega), H.drop_val (by omega), List.drop_of_length_le (by omega)]
  simp [H.val]
theorem v3_step {q r x2 x3 h D a b W : Nat} (hq : q * h + r = x3 * 4294967296 + x2) (hW : W = 4294967296 * (4294967296 * h)) :
    (q + 4294967296 * D) * W + (a + 4294967296 * (b + 4294967296 * r)) = a + 4294967296 * (D * W + (b + 4294967296 * (x2 + 4294967296 * x3))) := by
  have e1 : (q + 4294967296 * D) * W = q * W + 4294967296 * (D * W) := by rw [Nat.add_mul, Nat.mul_assoc]
  have e2 : q * W = 4294967296 * (4294967296 * (q * h)) := by rw [hW, Nat.mul_left_comm, Nat.mul_left_comm q]
  rw [e1, e2]
  clear e1 e2 hW
  omega
theorem F3.next {zs us ds : List Nat} {m x2 x3 q r : Nat} (h : F3 zs (m + 1) us ds) (h2 : x2 = H.wd us (m + 2)) (h3 : x3 = H.wd us (m + 3)) (hq : q * 2147483648 + r = x3 * 4294967296 + x2) (hr : r < 2147483648) :
    F3 zs m ((us.set (m + 2) r).set (m + 3) 0) (q :: ds) := by
  have hl := h.l
  have hd := h.d
  have b2 : x2 < 4294967296 := by rw [h2]; exact H.wd_lt h.su _
  have b3 : x3 < 2147483648 := by rw [h3]; exact h.top
  refine ⟨by simp [hl], Sm_set (Sm_set h.su (by unfold H.Bw; omega)) H.Bw_pos, H.Sm.cons (by unfold H.Bw; omega) h.sd, by simp; omega, ?_, ?_, ?_⟩
  · intro j hj
    rw [wd_set_ne (by omega), wd_set_ne (by omega)]
    exact h.low j (by omega)
  · rw [wd_set_ne (by omega), wd_set_same (by omega)]
    exact hr
  · rw [wd_set_ne (by omega), wd_set_ne (by omega), wd_set_ne (by omega), wd_set_ne (by omega), wd_set_ne (by omega), wd_set_same (by omega), H.drop_val (by omega), ← h.v, ← h.low m (by omega), H.val]
    have e2 : H.wd us (m + 1 + 1) = x2 := h2.symm
    have e3 : H.wd us (m + 1 + 2) = x3 := h3.symm
    rw [e2, e3]
    exact v3_step (D := H.val ds) hq (show V3 = 4294967296 * (4294967296 * 2147483648) by decide)
theorem F3.done {zs us ds : List Nat} (h : F3 zs 0 us ds) : H.val (ds ++ [0, 0, 0]) = H.val zs / V3 ∧ H.val (us.take 3) = H.val zs % V3 ∧ H.Sm (ds ++ [0, 0, 0]) ∧ (ds ++ [0, 0, 0]).length = zs.length := by
  have hv := h.v
  have ht := h.top
  have b0 : H.wd us 0 < 4294967296 := H.wd_lt h.su 0
  have b1 : H.wd us 1 < 4294967296 := H.wd_lt h.su 1
  simp only [List.drop_zero, Nat.zero_add] at hv ht
  have e2 : H.val (us.take 3) = H.wd us 0 + H.Bw * (H.wd us 1 + H.Bw * H.wd us 2) := by
    rw [H.val_take_any, H.val_take_any, H.val_take_any]
    simp [H.val, H.Bw]
    omega
  have hlt : H.wd us 0 + H.Bw * (H.wd us 1 + H.Bw * H.wd us 2) < V3 := by unfold H.Bw V3; omega
  have hz : H.Sm [0, 0, 0] := H.Sm.cons H.Bw_pos (H.Sm.cons H.Bw_pos (H.Sm.one H.Bw_pos))
  refine ⟨?_, ?_, h.sd.append hz, by have := h.d; simp; omega⟩
  · rw [H.val_append, show H.val [0, 0, 0] = 0 from rfl, Nat.mul_zero, Nat.add_zero, ← hv, Nat.add_comm, Nat.add_mul_div_right _ _ (by decide), Nat.div_eq_of_lt hlt, Nat.zero_add]
  · rw [e2, ← hv, Nat.add_comm (H.val ds * V3), Nat.add_mul_mod_self_right, Nat.mod_eq_of_lt hlt]
theorem top_lt3 {zs : List Nat} {X n : Nat} (hs : H.Sm zs) (hl : zs.length = n + 3) (hX : X < H.Bw ^ (n + 2)) (hz : H.val zs = X * 2147483648) : H.wd zs (n + 2) < 2147483648 := by
  have e : H.val (zs.drop (n + 2)) = H.wd zs (n + 2) := by
    rw [H.drop_val (by omega), List.drop_of_length_le (by omega)]
    simp [H.val]
  rw [← e, val_drop_div hs (by omega), hz]
  refine Nat.div_lt_of_lt_mul ?_
  exact Nat.mul_lt_mul_of_pos_right hX (by omega)
/-- The three rows. -/
def Q3 (w : World) (gv gu go : Nat) (us os : List Nat) (wr : World) : Prop := H.Bk wr gv [0, 0, 2147483648, 0] ∧ H.Bk wr gu us ∧ H.Bk wr go os ∧ Below w.heap.size w wr
theorem Q3.after {w wr wx : World} {gv gu go : Nat} {us os : List Nat} (h : Q3 w gv gu go us os wr) (hb : Below wr.heap.size wr wx) : Q3 w gv gu go us os wx :=
  ⟨h.1.below hb h.1.lt, h.2.1.below hb h.2.1.lt, h.2.2.1.below hb h.2.2.1.lt, h.2.2.2.trans (hb.mono h.2.2.2.size)⟩
theorem Q3.setU {w wr : World} {gv gu go : Nat} {us os : List Nat} (h : Q3 w gv gu go us os wr) (hvu : gv ≠ gu) (huo : gu ≠ go) (bu : w.heap.size ≤ gu) (i x : Nat) : Q3 w gv gu go (us.set i x) os (wr.setCell ⟨gu, i, none⟩ (.int .u32 (x : Int))) :=
  ⟨Bk_other h.1 _ _ hvu, h.2.1.set i x, Bk_other h.2.2.1 _ _ (Ne.symm huo), h.2.2.2.setCell bu _⟩
theorem Q3.setO {w wr : World} {gv gu go : Nat} {us os : List Nat} (h : Q3 w gv gu go us os wr) (hvo : gv ≠ go) (huo : gu ≠ go) (bo : w.heap.size ≤ go) (i x : Nat) : Q3 w gv gu go us (os.set i x) (wr.setCell ⟨go, i, none⟩ (.int .u32 (x : Int))) :=
  ⟨Bk_other h.1 _ _ hvo, Bk_other h.2.1 _ _ huo, h.2.2.1.set i x, h.2.2.2.setCell bo _⟩
theorem set_same {us : List Nat} {i : Nat} : us.set i (H.wd us i) = us := by
  apply List.ext_getElem (by simp)
  intro j h1 h2
  rw [List.getElem_set]
  split
  · rename_i e
    subst e
    simp at h1
    simp [H.wd, h1]
  · rfl
theorem os_next {m q : Nat} {ds : List Nat} : (List.replicate (m + 1) 0 ++ (ds ++ [0, 0, 0])).set m q = List.replicate m 0 ++ (q :: ds ++ [0, 0, 0]) := by
  rw [List.replicate_succ', List.append_assoc, List.set_append_right _ _ (by simp)]
  simp
/-- The two rows that parts lays at first. -/
def Laid3 (w : World) (X Y n s : Nat) (s11 s12 : Value) (wx : World) : Prop :=
  ∃ gv gu vs zs, s11 = .slice (some ⟨gv, 0, none⟩) 3 4 ∧ s12 = .slice (some ⟨gu, 0, none⟩) (n + 1) (n + 1) ∧ gv ≠ gu ∧ w.heap.size ≤ gv ∧ w.heap.size ≤ gu ∧ H.Bk wx gv vs ∧ H.Sm vs ∧ vs.length = 4 ∧ H.val vs = Y * 2 ^ s ∧
    H.Bk wx gu zs ∧ H.Sm zs ∧ zs.length = n + 1 ∧ H.val zs = X * 2 ^ s ∧ Below w.heap.size w wx
/-- The first digit that is not 0 of a divisor that is 1 and two digits 0. -/
theorem x_parts {x2 x3 q r : Nat} (hq : q * 2147483648 + r = x3 * 4294967296 + x2) (hr : r < 2147483648) (h2 : x2 < 4294967296) : x2 = q % 2 * 2147483648 + r ∧ x3 = q / 2 := by omega
end Go.Proofs.Ytcfiigodefkncaa
