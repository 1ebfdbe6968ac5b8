/- lotdrawerkeep.ComboBack: the walk. -/
import Derived.Test.YtfmmhhekkjgmlaaX6
namespace Go.Proofs.Ytfmmhhekkjgmlaa
open Go.RowKit Go.Deep

theorem inc_split {N : Nat} {a : List Nat} (h : Inc (N + 1) a) : (N ∉ a ∧ Inc N a) ∨ ∃ d, a = d ++ [N] ∧ Inc N d := by
  rcases List.eq_nil_or_concat a with rfl | ⟨d, x, rfl⟩
  · exact .inl ⟨by simp, inc_nil N⟩
  · rw [List.concat_eq_append] at *
    have h1 := inc_snoc.1 h
    by_cases hx : x = N
    · subst hx; exact .inr ⟨d, rfl, h1.1⟩
    · refine .inl ⟨fun hm => ?_, inc_snoc.2 ⟨h1.1, by omega⟩⟩
      rcases List.mem_append.1 hm with hm | hm
      · have := h1.1.2 N hm; omega
      · simp at hm; omega
theorem inc_ext : ∀ {N : Nat} {a b : List Nat}, Inc N a → Inc N b → (∀ x, x ∈ a ↔ x ∈ b) → a = b
  | 0, a, b, ha, hb, _ => by
    have h1 := ha.len_le
    have h2 := hb.len_le
    rw [List.eq_nil_of_length_eq_zero (show a.length = 0 by omega), List.eq_nil_of_length_eq_zero (show b.length = 0 by omega)]
  | N + 1, a, b, ha, hb, h => by
    rcases inc_split ha with ⟨h1, ha'⟩ | ⟨d, rfl, hd⟩
    · rcases inc_split hb with ⟨_, hb'⟩ | ⟨f, rfl, _⟩
      · exact inc_ext ha' hb' h
      · exact absurd ((h N).2 (by simp)) h1
    · rcases inc_split hb with ⟨h2, _⟩ | ⟨f, rfl, hf⟩
      · exact absurd ((h N).1 (by simp)) h2
      · congr 1
        refine inc_ext hd hf fun x => ?_
        have := h x
        simp only [List.mem_append, List.mem_singleton] at this
        constructor
        · intro hx
          rcases this.1 (.inl hx) with h3 | h3
          · exact h3
          · have := hd.2 x hx; omega
        · intro hx
          rcases this.2 (.inl hx) with h3 | h3
          · exact h3
          · have := hf.2 x hx; omega
theorem inc_filter (N : Nat) (p : Nat → Bool) : Inc N ((List.range N).filter p) :=
  ⟨List.pairwise_lt_range.sublist List.filter_sublist, fun x hx => by have := (List.mem_filter.1 hx).1; simpa using this⟩
theorem sel_all {N : Nat} {q : List Nat} (h : Inc N q) : (List.range N).filter (fun x => decide (x ∈ q)) = q := by
  refine inc_ext (inc_filter N _) h fun x => ?_
  simp only [List.mem_filter, List.mem_range, decide_eq_true_eq]
  exact ⟨fun h => h.2, fun hx => ⟨h.2 x hx, hx⟩⟩
theorem restN_inc (N : Nat) (q : List Nat) : Inc N (restN N q) := inc_filter N _
theorem restN_rest {N : Nat} {q : List Nat} (h : Inc N q) : restN N (restN N q) = q := by
  refine inc_ext (restN_inc N _) h fun x => ?_
  unfold restN
  simp only [List.mem_filter, List.mem_range, decide_eq_true_eq]
  constructor
  · rintro ⟨h1, h2⟩
    by_cases hx : x ∈ q
    · exact hx
    · exact absurd ⟨h1, hx⟩ h2
  · intro hx; exact ⟨h.2 x hx, fun h2 => h2.2 hx⟩
theorem filter_two (p : Nat → Bool) (l : List Nat) : (l.filter p).length + (l.filter (fun x => !p x)).length = l.length := by
  induction l with
  | nil => rfl
  | cons x t ih => by_cases h : p x = true <;> simp [h] <;> omega
theorem restN_size {N : Nat} {q : List Nat} (h : Inc N q) : (restN N q).length + q.length = N := by
  have h1 := filter_two (fun x => decide (x ∈ q)) (List.range N)
  rw [sel_all h, List.length_range] at h1
  have e : restN N q = (List.range N).filter (fun x => !decide (x ∈ q)) := by
    unfold restN; congr 1; funext x; simp
  rw [e]; omega

theorem atRC_cases (n k r : Int) : (∃ e : Int, e ≠ 0 ∧ atRC n k r = ([], e)) ∨ (∃ (N : Nat) (q : List Nat), n = (N : Int) ∧ atRC n k r = (ints q, 0) ∧ N ≤ 60 ∧ Inc N q ∧ (rk q : Int) = r ∧ (q.length : Int) = k) := by
  unfold atRC
  by_cases h1 : n < 0 ∨ 60 < n ∨ k < 0 ∨ r < 0
  · exact .inl ⟨2, by omega, by rw [if_pos h1]⟩
  · rw [if_neg h1]
    by_cases h2 : bc n.toNat k.toNat ≤ r.toNat
    · exact .inl ⟨3, by omega, by rw [if_pos h2]⟩
    · rw [if_neg h2]
      have h3 : r.toNat < bc n.toNat k.toNat := by omega
      exact .inr ⟨n.toNat, _, by omega, rfl, by omega, atC_inc _ h3, by rw [rk_atC _ h3]; omega, by rw [atC_len _ h3]; omega⟩
theorem atRC_rk {N : Nat} {q : List Nat} (hN : N ≤ 60) (h : Inc N q) : atRC (N : Int) (q.length : Int) (rk q : Int) = (ints q, 0) := by
  unfold atRC
  have h2 := rk_lt h
  rw [if_neg (by omega), Int.toNat_natCast, Int.toNat_natCast, Int.toNat_natCast, if_neg (by omega), atC_rk N q h]

set_option maxRecDepth 100000 in
set_option maxHeartbeats 4000000 in
theorem comboBack_walk (n k r : Int) (A : Option Addr) (ca : Nat) (c : List Int) (w : World) (hc : IP w A ca c) (hk : k ≤ 9223372036854775807) (hr : r ≤ 9223372036854775807) :
    Calls Try.prog 7 #[.int .i64 n, .int .i64 k, .int .i64 r, .slice A c.length ca] w fun e w' => e = .returned (.bool true) ∧ Below w.heap.size w w' := by
  have CA := Lib.hid (alive5_any w)
  have hle := hc.le
  have hcap := hc.cap
  have HC := Lib.hid hc
  clear hc
  go_enter Try.func7, Try.ntmps7
  go_wp2_with fail
  refine CA.out.mono ?_
  rintro e w1 ⟨rfl, hB1⟩
  have HB := Lib.hid hB1
  have C1 := Lib.hid (at_any5 n k r w1 hk hr)
  clear CA hB1
  rcases atRC_cases n k r with ⟨e0, he0, h⟩ | ⟨N, q, hn, h, hN, hI, hrk, hql⟩
  case' inl =>
    rw [h] at C1
    have t1 : (e0 != 0) = true := by rw [bne_iff_ne]; exact he0
    have t2 : (e0 == 0) = false := by rw [beq_eq_false_iff_ne]; exact he0
    clear h he0
    go_wp2_with fail
    refine C1.out.mono ?_
    rintro e w2 ⟨R2, c2, rfl, hI2, hB2⟩
    have HB := Lib.hid (HB.out.trans (hB2.mono HB.out.size))
    have C2 := Lib.hid (rank_any5 n R2 c2 [] w2 hI2)
    generalize rankC n [] = r1 at *
    obtain ⟨a1, e1⟩ := r1
    unfold ptup at C2
    clear C1 hB2 hI2
    unfold ltup
    go_wp2_with fail
    refine C2.out.mono ?_
    rintro e w4 ⟨rfl, rfl⟩
    clear C2
    have C3 := Lib.hid (rank_any5 n A ca c w4 (HC.out.later HB.out))
    simp only []
    clear t1
  case' inr =>
    have HN := Lib.hid hn
    rw [h] at C1
    clear hn h
    go_wp2_with fail
    refine C1.out.mono ?_
    rintro e w2 ⟨R2, c2, rfl, hI2, hB2⟩
    have HB := Lib.hid (HB.out.trans (hB2.mono HB.out.size))
    have hI2' : IP w2 R2 c2 (ints q) := hI2
    have hlen := hI.len_le
    have C2 := Lib.hid (rank_any5 n R2 c2 (ints q) w2 hI2')
    have C2r := Lib.hid (right_any5 n R2 c2 (ints q) w2 hI2')
    rw [show rankC n (ints q) = (((rk q : Nat) : Int), 0) by rw [HN.out]; exact rankC_yes hN hI] at C2
    rw [decide_eq_true (show RC n (ints q) by rw [HN.out]; exact rc_ints.2 ⟨hN, hI⟩)] at C2r
    rw [ints_len] at C2 C2r
    unfold ptup at C2
    have hcap2 := hI2'.cap
    clear C1 hB2 hI2 hI2' hI HN hN
    unfold ltup
    simp only [ints_len]
    subst hrk hql
    generalize rk q = rq at *
    generalize q.length = lq at *
    go_wp2_with fail
    refine C2.out.mono ?_
    rintro e w3 ⟨rfl, rfl⟩
    clear C2
    go_wp2_with fail
    refine C2r.out.mono ?_
    rintro e w4 ⟨rfl, rfl⟩
    clear C2r
    have C3 := Lib.hid (rank_any5 n A ca c w4 (HC.out.later HB.out))
  all_goals
    by_cases hok : RC n c
    · obtain ⟨N', q', hn', hc', hN', hI'⟩ := rc_open hok
      subst hn' hc'
      rw [rankC_yes hN' hI'] at C3
      unfold ptup at C3
      have C4 := Lib.hid (at_any5 (N' : Int) (q'.length : Int) (rk q' : Int) w4 (by have := hI'.len_le; omega) (by have := inc_rk hI' hN'; omega))
      rw [atRC_rk hN' hI'] at C4
      have hlen' := hI'.len_le
      have hrk' := inc_rk hI' hN'
      have HN2 := Lib.hid (restC_yes hN' hI')
      have HN3 := Lib.hid (restC_yes hN' (restN_inc N' q'))
      rw [restN_rest hI'] at HN3
      have hsz := restN_size hI'
      rw [ints_len] at C3 ⊢
      rw [ints_len] at hle
      clear hok hI'
      generalize rk q' = rq' at *
      go_wp2_with fail
      refine C3.out.mono ?_
      rintro e w5 ⟨rfl, rfl⟩
      clear C3
      go_wp2_with fail
      refine C4.out.mono ?_
      rintro e w6 ⟨R6, c6, rfl, hI6, hB6⟩
      have HB := Lib.hid (HB.out.trans (hB6.mono HB.out.size))
      have hI6' : IP w6 R6 c6 (ints q') := hI6
      have I6 := Lib.hid hI6'
      have C5 := Lib.hid (rest_any5 (N' : Int) A ca (ints q') w6 (HC.out.later HB.out))
      rw [HN2.out, ints_len] at C5
      clear C4 hB6 hI6 hI6'
      unfold ltup
      simp only [ints_len]
      go_wp2_with fail
      refine C5.out.mono ?_
      rintro e w7 ⟨R7, c7, rfl, hI7, hB7⟩
      have HB := Lib.hid (HB.out.trans (hB7.mono HB.out.size))
      have hI7' : IP w7 R7 c7 (ints (restN N' q')) := hI7
      have I6 := Lib.hid (I6.out.later hB7)
      have C6 := Lib.hid (rest_any5 (N' : Int) R7 c7 (ints (restN N' q')) w7 hI7')
      rw [HN3.out, ints_len] at C6
      have hcap7 := hI7'.cap
      clear C5 hB7 hI7 hI7' HN2 HN3
      unfold ltup
      simp only [ints_len]
      generalize (restN N' q').length = lr at *
      go_wp2_with fail
      refine C6.out.mono ?_
      rintro e w8 ⟨R8, c8, rfl, hI8, hB8⟩
      have HB := Lib.hid (HB.out.trans (hB8.mono HB.out.size))
      have hI8' : IP w8 R8 c8 (ints q') := hI8
      have C7 := Lib.hid (iequal_any R6 A c6 ca (ints q') (ints q') w8 (I6.out.later hB8).il (HC.out.later HB.out).il (by rw [ints_len]; omega) (by rw [ints_len]; omega))
      rw [decide_eq_true rfl, ints_len] at C7
      have I8 := Lib.hid hI8'
      clear C6 hB8 hI8 hI8' I6
      unfold ltup
      simp only [ints_len]
      go_wp2_with fail
      refine C7.out.mono ?_
      rintro e w9 ⟨rfl, hB9⟩
      have HB := Lib.hid (HB.out.trans (hB9.mono HB.out.size))
      have C8 := Lib.hid (iequal_any R8 A c8 ca (ints q') (ints q') w9 (I8.out.later hB9).il (HC.out.later HB.out).il (by rw [ints_len]; omega) (by rw [ints_len]; omega))
      rw [decide_eq_true rfl, ints_len] at C8
      clear C7 hB9 I8
      go_wp2_with fail
      refine C8.out.mono ?_
      rintro e w10 ⟨rfl, hB10⟩
      have HB := Lib.hid (HB.out.trans (hB10.mono HB.out.size))
      have hsum : (((lr : Int) + (q'.length : Int)) == (N' : Int)) = true := by rw [beq_iff_eq]; omega
      clear C8 hB10
      go_wp2
      go_ret
      exact ⟨rfl, HB.out⟩
    · have HN2 : Hid (restC n c = ([], 1)) := if_neg hok
      unfold rankC at C3
      rw [if_neg hok] at C3
      unfold ptup at C3
      clear hok
      have C4 := Lib.hid (at_any5 n (c.length : Int) 0 w4 (by omega) (by omega))
      obtain ⟨⟨m1, m2⟩, hm⟩ : ∃ m, atRC n (c.length : Int) 0 = m := ⟨_, rfl⟩
      rw [hm] at C4
      clear hm
      go_wp2_with fail
      refine C3.out.mono ?_
      rintro e w5 ⟨rfl, rfl⟩
      clear C3
      go_wp2_with fail
      refine C4.out.mono ?_
      rintro e w6 ⟨R6, c6, rfl, hI6, hB6⟩
      have HB := Lib.hid (HB.out.trans (hB6.mono HB.out.size))
      have C5 := Lib.hid (rest_any5 n A ca c w6 (HC.out.later HB.out))
      rw [HN2.out] at C5
      clear C4 hB6 hI6 HN2
      unfold ltup
      simp only []
      go_wp2_with fail
      refine C5.out.mono ?_
      rintro e w7 ⟨R7, c7, rfl, hI7, hB7⟩
      have HB := Lib.hid (HB.out.trans (hB7.mono HB.out.size))
      have C6 := Lib.hid (rest_any5 n R7 c7 [] w7 hI7)
      obtain ⟨⟨m3, m4⟩, hm⟩ : ∃ m, restC n [] = m := ⟨_, rfl⟩
      rw [hm] at C6
      clear C5 hB7 hI7 hm
      unfold ltup
      go_wp2_with fail
      refine C6.out.mono ?_
      rintro e w8 ⟨R8, c8, rfl, hI8, hB8⟩
      have HB := Lib.hid (HB.out.trans (hB8.mono HB.out.size))
      clear C6 hB8 hI8
      unfold ltup
      simp only []
      go_wp2
      go_ret
      exact ⟨rfl, HB.out⟩
end Go.Proofs.Ytfmmhhekkjgmlaa
