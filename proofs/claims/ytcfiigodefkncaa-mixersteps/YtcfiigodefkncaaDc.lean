import Derived.Test.YtcfiigodefkncaaDb
/- Where the divisor has two digits: shiftLeft with its own row; the digits of a long division. -/
namespace Go.Proofs.Ytcfiigodefkncaa
open Go.RowKit Go.Deep

theorem Sl.own {w wr : World} {q r : Nat} {xs : List Nat} {t : Nat} (h : Sl w q r xs xs.length t wr) (hr : r < 32) :
    ∃ zs, zs.length = xs.length + q + 1 ∧ H.Sm zs ∧ H.Bk wr w.heap.size zs ∧ H.val zs = H.val xs * 2 ^ (32 * q + r) ∧ Below w.heap.size w wr := by
  obtain ⟨es, e1, e2, e3, e4, e5, e6⟩ := h
  rw [Nat.sub_self, List.replicate_zero] at e5
  rw [List.take_of_length_le (Nat.le_refl _)] at e4
  have hz : H.Sm (List.replicate q 0) := fun x hx => by rw [List.eq_of_mem_replicate hx]; exact H.Bw_pos
  have ht : t < H.Bw := by
    have h1 : (2 : Nat) ^ r ≤ 2 ^ 31 := Nat.pow_le_pow_right (by omega) (by omega)
    unfold H.Bw
    omega
  refine ⟨List.replicate q 0 ++ es ++ [t], by simp [e1]; omega, (hz.append e2).append (H.Sm.one ht), e5, ?_, e6⟩
  · rw [H.val_append, H.val_append, H.val_zeros]
    simp only [List.length_append, List.length_replicate, e1, H.val, Nat.mul_zero, Nat.add_zero, Nat.zero_add]
    rw [Nat.pow_add, Nat.mul_assoc, ← Nat.mul_add, e4, Nat.pow_add, Nat.pow_mul]
    rw [show (2 : Nat) ^ 32 = H.Bw from rfl, ← Nat.mul_assoc, Nat.mul_comm (H.Bw ^ q), Nat.mul_assoc]

set_option maxRecDepth 100000 in
set_option maxHeartbeats 2000000 in
theorem shiftLeft_own (A : Option Addr) (ca n q r : Nat) (xs : List Nat) (w : World) (ha : H.Wd w A xs) (hx : xs.length ≤ 400000) (hn : Hid (n = 32 * q + r)) (hr : r < 32) (hq : q ≤ 400000) :
    Calls Try.prog 33 #[.slice A xs.length ca, .int .i64 (n : Int)] w fun e w' => ∃ zs, e = .returned (.slice (some ⟨w.heap.size, 0, none⟩) zs.length zs.length) ∧ H.Bk w' w.heap.size zs ∧ H.Sm zs ∧ zs.length = xs.length + q + 1 ∧ H.val zs = H.val xs * 2 ^ n ∧ Below w.heap.size w w' := by
  have hnq : (n : Int) / 32 = (q : Int) := by have := hn.out; omega
  have hnr : (n : Int) % 32 = (r : Int) := by have := hn.out; omega
  have hmk := run_make_row' (P := Try.prog) 51 63 (.int .u32 0) 4 Try.underlying51 Try.info63 rfl .i64 .i64 (xs.length + q + 1) (by omega) (by omega)
  simp only [Int.natCast_add, Int.cast_ofNat_Int] at hmk
  have HA := Lib.hid ha
  clear ha
  go_enter Try.func33, Try.ntmps33
  go_wp2
  go_loopw [18] (fun i wr => ∃ k t : Nat, k ≤ xs.length ∧ i = .int .i64 k ∧ Sl w q r xs k t wr) (fun i _ => xs.length - (intOf i).toNat)
  case atStart => exact ⟨0, 0, Nat.zero_le _, rfl, Sl.start w q r xs⟩
  case round =>
    clear hmk
    obtain ⟨k, t, hk, rfl, hS⟩ := hrel
    have HS := Lib.hid hS
    clear hS
    by_cases hlt : k < xs.length
    · obtain ⟨_, _, _, ht, _, _, hbel⟩ := HS.out
      have ba : H.wd xs k < 4294967296 := H.wd_lt HA.out.1 k
      obtain ⟨v, v1, v2, v3, v4, v5, v6⟩ := shl_digit ba hr ht
      obtain ⟨c1, c2, c3, c4, c5, c6⟩ := HS.out.free hlt (t + v % 4294967296)
      rw [Nat.add_comm q k] at c1 c2 c3 c4 c5 c6
      obtain ⟨b1, o1, rfl, _, hc1⟩ := (HA.out.below hbel).2 (by omega)
      have e1 := hc1 k hlt
      have V1 := Lib.hid v1
      have V4 := Lib.hid v4
      have V5 := Lib.hid v5
      have hlen : k + q < xs.length + q + 1 := by omega
      have hlen2 : k + q + 1 < xs.length + q + 1 := by omega
      clear hc1 hbel v1 v4 v5 ht
      go_wp2_with fail
      go_roundw
      case rel =>
        have N := HS.out.next hlt V1.out V4.out V5.out (X := (t : Int) + (v : Int) % 4294967296) (Y := (v : Int) / 4294967296) (by omega) (by omega)
        rw [Nat.add_comm q k] at N
        exact ⟨k + 1, _, by omega, by go_num, N⟩
      case measure => simp [intOf]; omega
    · obtain rfl : xs.length = k := by omega
      obtain ⟨zs, z1, z0, z2, z3, z4⟩ := HS.out.own hr
      have Z0 := Lib.hid z0
      have Z1 := Lib.hid z1
      have Z2 := Lib.hid z2
      have Z3 := Lib.hid z3
      have Z4 := Lib.hid z4
      clear z0 z1 z2 z3 z4
      go_wp2
      go_ret
      exact ⟨zs, by rw [Z1.out]; rfl, Z2.out, Z0.out, Z1.out, by rw [hn.out]; exact Z3.out, Z4.out⟩


theorem Bk_other {w : World} {g : Nat} {xs : List Nat} (h : H.Bk w g xs) (p : Addr) (u : Value) (hne : g ≠ p.block) : H.Bk (w.setCell p u) g xs := by
  unfold H.Bk at h ⊢
  rw [heap_setCell_other _ _ _ _ hne]
  exact h

/-- A digit less another, and less what was borrowed. -/
theorem sub_digit {u p b : Int} (hu0 : 0 ≤ u) (hu : u < 4294967296) (hp0 : 0 ≤ p) (hp : p < 4294967296) (hb0 : 0 ≤ b) (hb : b ≤ 1) :
    ∃ d c : Int, IntKind.u64.wrap (IntKind.u64.wrap (u - p) - b) % 4294967296 = d ∧ IntKind.u64.wrap (IntKind.u64.wrap (u - p) - b) / 9223372036854775808 = c ∧ 0 ≤ d ∧ d < 4294967296 ∧ 0 ≤ c ∧ c ≤ 1 ∧ u + 4294967296 * c = d + p + b := by
  by_cases h : u < p + b
  · exact ⟨u + 4294967296 - p - b, 1, by simp only [IntKind.wrap_u64]; omega, by simp only [IntKind.wrap_u64]; omega, by omega, by omega, by omega, by omega, by omega⟩
  · exact ⟨u - p - b, 0, by simp only [IntKind.wrap_u64]; omega, by simp only [IntKind.wrap_u64]; omega, by omega, by omega, by omega, by omega, by omega⟩

/-- What stands in the great loop of parts: the digits from place k on are divided. -/
def P2 (w : World) (gv gu go V : Nat) (vs zs : List Nat) (k : Nat) (wr : World) : Prop :=
  ∃ us ds, us.length = zs.length ∧ H.Sm us ∧ H.Sm ds ∧ ds.length + k + 2 = zs.length ∧ (∀ j, j < k → H.wd us j = H.wd zs j) ∧ H.wd us k + H.Bw * H.wd us (k + 1) < V ∧
    H.val ds * V + (H.wd us k + H.Bw * H.wd us (k + 1)) = H.val (zs.drop k) ∧ H.Bk wr gv vs ∧ H.Bk wr gu us ∧ H.Bk wr go (List.replicate k 0 ++ (ds ++ [0, 0])) ∧ Below w.heap.size w wr

theorem wd_set_same {us : List Nat} {i x : Nat} (h : i < us.length) : H.wd (us.set i x) i = x := by
  unfold H.wd; rw [List.getD_eq_getElem?_getD]; simp [h]
theorem wd_set_ne {us : List Nat} {i j x : Nat} (h : i ≠ j) : H.wd (us.set i x) j = H.wd us j := by
  unfold H.wd; rw [List.getD_eq_getElem?_getD, List.getD_eq_getElem?_getD, List.getElem?_set_ne h]
theorem Sm_set {us : List Nat} {i x : Nat} (h : H.Sm us) (hx : x < H.Bw) : H.Sm (us.set i x) := fun y hy => by
  rcases List.mem_or_eq_of_mem_set hy with h1 | h1
  · exact h y h1
  · rw [h1]; exact hx

theorem P2.start {w wr : World} {gv gu go V : Nat} {vs zs : List Nat} {n : Nat} (hn : zs.length = n + 2) (hs : H.Sm zs) (hV : H.wd zs n + H.Bw * H.wd zs (n + 1) < V) (h1 : H.Bk wr gv vs) (h2 : H.Bk wr gu zs) (h3 : H.Bk wr go (List.replicate (n + 2) 0)) (h4 : Below w.heap.size w wr) :
    P2 w gv gu go V vs zs n wr := by
  refine ⟨zs, [], rfl, hs, H.Sm.nil, by simp; omega, fun _ _ => rfl, hV, ?_, h1, h2, ?_, h4⟩
  · rw [H.drop_val (by omega), H.drop_val (by omega), List.drop_of_length_le (by omega)]
    simp [H.val]
  · rw [← List.replicate_append_replicate] at h3
    exact h3
theorem P2.next {w wr : World} {gv gu go V : Nat} {vs zs : List Nat} {m q d0 d1 : Nat} (h : P2 w gv gu go V vs zs (m + 1) wr) (hvu : gv ≠ gu) (hvo : gv ≠ go) (huo : gu ≠ go) (bu : w.heap.size ≤ gu) (bo : w.heap.size ≤ go)
    {us : List Nat} (hus : H.Bk wr gu us) (hq : q < H.Bw) (h0 : d0 < H.Bw) (h1 : d1 < H.Bw) (hlt : d0 + H.Bw * d1 < V) (he : q * V + (d0 + H.Bw * d1) = H.wd us m + H.Bw * (H.wd us (m + 1) + H.Bw * H.wd us (m + 2))) :
    P2 w gv gu go V vs zs m ((((wr.setCell ⟨gu, m, none⟩ (.int .u32 (d0 : Int))).setCell ⟨gu, m + 1, none⟩ (.int .u32 (d1 : Int))).setCell ⟨gu, m + 2, none⟩ (.int .u32 ((0 : Nat) : Int))).setCell ⟨go, m, none⟩ (.int .u32 (q : Int))) := by
  obtain ⟨us', ds, a1, a2, a3, a4, a5, a6, a7, a8, a9, a10, a11⟩ := h
  have e : us' = us := by
    unfold H.Bk at a9 hus
    rw [hus] at a9
    injection a9 with a9
    injection a9 with a9
    have a9 := congrArg Array.toList a9
    simp only [H.cellsOf] at a9
    have := List.map_inj_right (f := fun (x : Nat) => Value.int .u32 (x : Int)) (by intro x y h; injection h with _ h; omega) |>.1 a9
    exact this.symm
  subst e
  refine ⟨((us'.set m d0).set (m + 1) d1).set (m + 2) 0, q :: ds, by simp [a1], Sm_set (Sm_set (Sm_set a2 h0) h1) H.Bw_pos, H.Sm.cons hq a3, by simp; omega, ?_, ?_, ?_, ?_, ?_, ?_, ?_⟩
  · intro j hj
    rw [wd_set_ne (by omega), wd_set_ne (by omega), wd_set_ne (by omega)]
    exact a5 j (by omega)
  · rw [wd_set_ne (by omega), wd_set_ne (by omega), wd_set_same (by omega), wd_set_ne (by omega), wd_set_same (by simp; omega)]
    exact hlt
  · rw [wd_set_ne (by omega), wd_set_ne (by omega), wd_set_same (by omega), wd_set_ne (by omega), wd_set_same (by simp; omega), H.drop_val (by omega), ← a7, ← a5 m (by omega), H.val, Nat.add_mul, Nat.mul_assoc, Nat.mul_add H.Bw (H.val ds * V)]
    have he' : q * V + (d0 + H.Bw * d1) = H.wd us' m + H.Bw * (H.wd us' (m + 1) + H.Bw * H.wd us' (m + 1 + 1)) := he
    omega
  · exact Bk_other (Bk_other (Bk_other (Bk_other a8 _ _ hvu) _ _ hvu) _ _ hvu) _ _ hvo
  · exact Bk_other (((a9.set m d0).set (m + 1) d1).set (m + 2) 0) _ _ huo
  · have := (Bk_other (Bk_other (Bk_other a10 ⟨gu, m, none⟩ (.int .u32 (d0 : Int)) (Ne.symm huo)) ⟨gu, m + 1, none⟩ (.int .u32 (d1 : Int)) (Ne.symm huo)) ⟨gu, m + 2, none⟩ (.int .u32 ((0 : Nat) : Int)) (Ne.symm huo)).set m q
    rw [List.replicate_succ', List.append_assoc, List.set_append_right _ _ (by simp)] at this
    simpa using this
  · exact (((a11.setCell bu _).setCell bu _).setCell bu _).setCell bo _
theorem P2.done {w wr : World} {gv gu go V : Nat} {vs zs : List Nat} (h : P2 w gv gu go V vs zs 0 wr) (hV : 0 < V) :
    ∃ os us : List Nat, os.length = zs.length ∧ us.length = zs.length ∧ H.Wd wr (some ⟨go, 0, none⟩) os ∧ H.Wd wr (some ⟨gu, 0, none⟩) (us.take 2) ∧ H.val os = H.val zs / V ∧ H.val (us.take 2) = H.val zs % V ∧ Below w.heap.size w wr := by
  obtain ⟨us, ds, a1, a2, a3, a4, a5, a6, a7, a8, a9, a10, a11⟩ := h
  simp only [List.replicate_zero, List.nil_append, List.drop_zero] at a7 a10
  have e2 : H.val (us.take 2) = H.wd us 0 + H.Bw * H.wd us (0 + 1) := by
    rw [H.val_take_any, H.val_take_any]
    simp [H.val]
  have hz : H.Sm [0, 0] := H.Sm.cons H.Bw_pos (H.Sm.one H.Bw_pos)
  refine ⟨ds ++ [0, 0], us, by simp; omega, a1, a10.wd (a3.append hz), (a9.wd a2).take 2, ?_, ?_, a11⟩
  · rw [H.val_append, show H.val [0, 0] = 0 from rfl, Nat.mul_zero, Nat.add_zero, ← a7, Nat.add_comm, Nat.add_mul_div_right _ _ hV, Nat.div_eq_of_lt a6, Nat.zero_add]
  · rw [e2, ← a7, Nat.add_comm (H.val ds * V), Nat.add_mul_mod_self_right, Nat.mod_eq_of_lt a6]
/-- The two highest digits of what is moved to the left are below a divisor with its highest bit set. -/
theorem top_lt {zs : List Nat} {X n s V : Nat} (hs : H.Sm zs) (hl : zs.length = n + 2) (hX : X < H.Bw ^ (n + 1)) (hz : H.val zs = X * 2 ^ s) (hs31 : s ≤ 31) (hV : 2147483648 * H.Bw ≤ V) : H.wd zs n + H.Bw * H.wd zs (n + 1) < V := by
  have e : H.val (zs.drop n) = H.wd zs n + H.Bw * H.wd zs (n + 1) := by
    rw [H.drop_val (by omega), H.drop_val (by omega), List.drop_of_length_le (by omega)]
    simp [H.val]
  rw [← e, val_drop_div hs (by omega), hz]
  refine Nat.lt_of_lt_of_le ?_ hV
  refine Nat.div_lt_of_lt_mul ?_
  have h1 : 2 ^ s ≤ 2147483648 := by
    have : (2 : Nat) ^ s ≤ 2 ^ 31 := Nat.pow_le_pow_right (by omega) hs31
    simpa using this
  have h2 : X * 2 ^ s ≤ X * 2147483648 := Nat.mul_le_mul_left _ h1
  have h3 : X * 2147483648 < H.Bw ^ (n + 1) * 2147483648 := Nat.mul_lt_mul_of_pos_right hX (by omega)
  rw [Nat.pow_succ, Nat.mul_assoc, Nat.mul_comm H.Bw] at h3
  omega
theorem scale_div {X Y s : Nat} : X * 2 ^ s / (Y * 2 ^ s) = X / Y := Nat.mul_div_mul_right _ _ (Nat.two_pow_pos s)
theorem scale_mod {X Y s : Nat} : X * 2 ^ s % (Y * 2 ^ s) / 2 ^ s = X % Y := by
  rw [Nat.mul_mod_mul_right, Nat.mul_div_cancel _ (Nat.two_pow_pos s)]
end Go.Proofs.Ytcfiigodefkncaa
