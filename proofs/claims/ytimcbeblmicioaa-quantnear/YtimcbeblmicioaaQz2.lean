/- quant: what insertion keeps; the least, the greatest, who stands near, few ones (ahead of the code; builds by itself). -/
import Derived.Test.YtimcbeblmicioaaQz1
namespace Go.Proofs.Ytimcbeblmicioaa

theorem qins_len {S : List Rk} (h : qsrt S) (x : Int) : (qins S x).length = S.length + 1 := by
  have hsp := congrArg List.length (qsplit (x := x) h)
  rw [List.length_append] at hsp
  unfold qins
  rw [List.length_append, List.length_cons]; omega
theorem qins_tot {S : List Rk} (h : qsrt S) (x : Int) : qtot (qins S x) = qtot S + 1 := by
  have hsp := congrArg qtot (qsplit (x := x) h)
  rw [qtot_app] at hsp
  unfold qins
  rw [qtot_app]
  simp only [qtot]; omega
theorem qins_srt {S : List Rk} (h : qsrt S) (x : Int) : qsrt (qins S x) := by
  unfold qins qsrt
  rw [List.pairwise_append, List.pairwise_cons]
  refine ⟨h.filter _, ⟨fun a ha => ?_, h.filter _⟩, fun a ha b hb => ?_⟩
  · exact Int.le_of_lt (qhigh_mem ha).2
  · have h1 := (qlow_mem ha).2
    rcases List.mem_cons.1 hb with rfl | hb
    · exact h1
    · exact Int.le_trans h1 (Int.le_of_lt (qhigh_mem hb).2)
theorem qtru_bd {xs : List Int} : ∀ {l : List Rk} {a : Int}, 0 ≤ a → (∀ r ∈ l, 0 ≤ r.g) → qtru xs a l → ∀ r ∈ l, r.g + r.m ≤ xs.length
  | [], _, _, _, _ => fun r hr => by simp at hr
  | r :: l, a, ha, hg, h => fun y hy => by
    obtain ⟨⟨_, _, _, h5⟩, h4⟩ := h
    rcases List.mem_cons.1 hy with rfl | hy
    · omega
    · exact qtru_bd (l := l) (a := a + r.g) (by have := hg r (List.mem_cons_self ..); omega) (fun z hz => hg z (List.mem_cons_of_mem _ hz)) h4 y hy
theorem qins_mem {S : List Rk} {x : Int} {r : Rk} (h : r ∈ qins S x) : r ∈ S ∨ r = ⟨x, 1, qmore (qlow x S) (qhigh x S)⟩ := by
  unfold qins at h
  rcases List.mem_append.1 h with h | h
  · exact .inl (qlow_mem h).1
  · rcases List.mem_cons.1 h with h | h
    · exact .inr h
    · exact .inl (qhigh_mem h).1
theorem qmore_ge {p : Int} {S L H : List Rk} (h : QR p S) (hH : ∀ r ∈ H, r ∈ S) : 0 ≤ qmore L H ∧ (1 + qmore L H ≤ 1 ∨ 1 + qmore L H ≤ 2 * qtot S / p) := by
  cases L with
  | nil => rw [qmore_nil1]; exact ⟨by omega, .inl (by omega)⟩
  | cons a L =>
    cases H with
    | nil => rw [qmore_nil2]; exact ⟨Int.le_refl _, .inl (by decide)⟩
    | cons k H =>
      have hk := h.each k (hH k (List.mem_cons_self ..))
      have hf := h.fit k (hH k (List.mem_cons_self ..))
      show 0 ≤ k.g + k.m - 1 ∧ (1 + (k.g + k.m - 1) ≤ 1 ∨ 1 + (k.g + k.m - 1) ≤ _)
      refine ⟨by omega, ?_⟩
      rcases hf with h1 | h1
      · exact .inl (by omega)
      · exact .inr (by omega)
theorem qins_first {p : Int} {S : List Rk} {xs : List Int} (h : QI p S xs) (x : Int) : ∀ r l, qins S x = r :: l → r.g = 1 ∧ r.m = 0 := by
  intro r l e
  have hsp := qsplit (x := x) h.right.srt
  unfold qins at e
  cases hL : qlow x S with
  | nil =>
    rw [hL, qmore_nil1] at e
    simp only [List.nil_append, List.cons.injEq] at e
    rw [← e.1]; exact ⟨rfl, rfl⟩
  | cons a L =>
    rw [hL] at e hsp
    simp only [List.cons_append, List.cons.injEq] at e
    rw [← e.1]
    exact h.first a _ hsp
theorem qins_last {p : Int} {S : List Rk} {xs : List Int} (h : QI p S xs) (x : Int) : ∀ r, (qins S x).getLast? = some r → r.m = 0 := by
  intro r e
  have hsp := qsplit (x := x) h.right.srt
  unfold qins at e
  cases hH : qhigh x S with
  | nil =>
    rw [hH, qmore_nil2] at e
    simp at e
    rw [← e]
  | cons a H =>
    rw [hH] at e hsp
    refine h.last r ?_
    rw [hsp]
    simpa [List.getLast?_append] using e
theorem qcmp_last {b : Int} {l : List Rk} (h : ∀ r, l.getLast? = some r → r.m = 0) : ∀ r, (qcmp b l).getLast? = some r → r.m = 0 := by
  cases l with
  | nil => exact h
  | cons a l =>
    cases l with
    | nil => exact h
    | cons c l =>
      intro r hr
      obtain ⟨z, hz⟩ : ∃ z, (c :: l).getLast? = some z := ⟨_, List.getLast?_eq_some_getLast (by simp)⟩
      obtain ⟨y, h1, h2, h3⟩ := qgo_last b (c :: l) z hz
      have h4 := h z (by simpa using hz)
      obtain ⟨k, t, hq⟩ : ∃ k t, qgo b (c :: l) = k :: t := by
        cases hq : qgo b (c :: l) with
        | nil => exact absurd hq (qgo_ne b c l)
        | cons k t => exact ⟨k, t, rfl⟩
      have h5 : (qcmp b (a :: c :: l)).getLast? = (qgo b (c :: l)).getLast? := by
        show (a :: qgo b (c :: l)).getLast? = _
        rw [hq]; simp
      rw [h5, h1] at hr
      cases hr
      omega
theorem qadd_inv {p : Int} {S : List Rk} {xs : List Int} (h : QI p S xs) (hl : S.length < 400) (ht : qtot S < 1099511627776) (x : Int) : QI p (qadd p S x) (xs ++ [x]) := by
  have hR := h.right
  have hs := hR.srt
  have hm := qmore_ge (L := qlow x S) hR (fun r hr => (qhigh_mem (x := x) hr).1)
  have htot : qtot (qadd p S x) = qtot S + 1 := by unfold qadd; rw [qcmp_tot, qins_tot hs]
  have hxl : ((xs ++ [x]).length : Int) = xs.length + 1 := by simp
  have htru : qtru (xs ++ [x]) 0 (qadd p S x) := qtru_cmp (qins_tru h x)
  have hpos : ∀ r ∈ qadd p S x, 1 ≤ r.g ∧ 0 ≤ r.m := by
    refine qcmp_each (P := fun r => 1 ≤ r.g ∧ 0 ≤ r.m) (fun r k h1 h2 _ => ⟨by show 1 ≤ k.g + r.g; omega, h2.2⟩) _ (fun r hr => ?_)
    rcases qins_mem hr with h1 | rfl
    · have := hR.each r h1; omega
    · exact ⟨Int.le_refl _, hm.1⟩
  refine ⟨⟨hR.p1, hR.p2, ?_, ?_, qcmp_srt (qins_srt hs x), by omega, ?_⟩, ?_, htru, ?_, ?_⟩
  · have h1 := qcmp_len (2 * (qtot S + 1) / p) (qins S x)
    rw [qins_len hs] at h1
    show (qcmp _ _).length ≤ 400
    omega
  · intro r hr
    have h1 := hpos r hr
    have h2 := qtru_bd (Int.le_refl 0) (fun y hy => by have := hpos y hy; omega) htru r hr
    have h3 := h.tot
    omega
  · rw [htot]
    refine qcmp_each (P := fun r => r.g + r.m ≤ 1 ∨ r.g + r.m ≤ 2 * (qtot S + 1) / p) (fun r k _ _ h3 => .inr (by show k.g + r.g + k.m ≤ _; omega)) _ (fun r hr => ?_)
    have hb : 2 * qtot S / p ≤ 2 * (qtot S + 1) / p := Int.ediv_le_ediv (by have := hR.p1; omega) (by omega)
    rcases qins_mem hr with h1 | rfl
    · rcases hR.fit r h1 with h2 | h2
      · exact .inl h2
      · exact .inr (by omega)
    · rcases hm.2 with h2 | h2
      · exact .inl h2
      · exact .inr (by show 1 + qmore (qlow x S) (qhigh x S) ≤ 2 * (qtot S + 1) / p; omega)
  · rw [htot, hxl, h.tot]
  · intro r l e
    have h1 := qins_first h x
    unfold qadd at e
    cases hq : qins S x with
    | nil => rw [hq] at e; simp [qcmp] at e
    | cons a t =>
      rw [hq] at e
      simp only [qcmp, List.cons.injEq] at e
      rw [← e.1]
      exact h1 a t hq
  · exact qcmp_last (qins_last h x)
end Go.Proofs.Ytimcbeblmicioaa
