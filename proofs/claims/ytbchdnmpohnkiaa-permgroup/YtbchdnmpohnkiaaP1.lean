/- perm.Right, perm.identity. -/
import Derived.Test.YtbchdnmpohnkiaaPm
import Derived.Test.YtbchdnmpohnkiaaIv
import Derived.Deep.OwnRows
namespace Go.Proofs.Ytbchdnmpohnkiaa
open Go.RowKit Go.Deep

/-- What stands in the loop of Right. -/
structure PRel (w : World) (p : List Int) (k : Nat) (wr : World) : Prop where
  ok : okUp p k
  bs : Bs 4 wr w.heap.size (bvs (mk p.length (p.take k)))
  bel : Below w.heap.size w wr
theorem prel_start (w : World) (p : List Int) : PRel w p 0 (w.alloc (.cells (madeCells #[.bool false] p.length) 4)) := by
  refine ⟨okUp_zero p, ?_, (Below.refl _ _).alloc (Nat.le_refl _) _⟩
  have := Bs.made 4 w (.bool false) p.length
  rw [List.take_zero, mk_nil]
  simpa [bvs] using this
theorem prel_step {w wr : World} {p : List Int} {k e : Nat} (h : PRel w p k wr) (hk : k < p.length) (hx : p.getD k 0 = (e : Int)) (he : e < p.length) (hn : (e : Int) ∉ p.take k) :
    PRel w p (k + 1) (wr.setCell ⟨w.heap.size, e, none⟩ (.bool true)) := by
  refine ⟨okUp_step h.ok hk (by omega) (by omega) (by rw [hx]; exact hn), ?_, h.bel.setCell (Nat.le_refl _) _⟩
  have := h.bs.set e (.bool true)
  rw [bvs_set, mk_set _ he, ← hx, ← take_snoc hk] at this
  exact this

set_option maxHeartbeats 1000000 in
theorem permRight_any (A : Option Addr) (ca : Nat) (p : List Int) (w : World) (hp : IP w A ca p) :
    Calls Try.prog 14 #[.slice A p.length ca] w fun e w' => e = .returned (.bool (decide (Ok p))) ∧ Below w.heap.size w w' := by
  have hle := hp.le
  have hcap := hp.cap
  by_cases hn : 20 < p.length
  · have E : Hid (¬ Ok p) := fun h => by have := h.1; omega
    clear hp
    go_enter Try.func14, Try.ntmps14
    go_wp2
    go_ret
    exact ⟨retB (by simp [E.out]), Below.refl _ _⟩
  · have hmk := run_make_row' (P := Try.prog) 36 4 (.bool false) 1 Try.underlying36 info_bool rfl .i64 .i64 p.length (by omega) (by omega)
    have HS := Lib.hid (prel_start w p)
    have HP := Lib.hid hp
    clear hp
    go_enter Try.func14, Try.ntmps14
    go_wp2_with fail
    go_loopw [15] (fun iv wr => ∃ k : Nat, k ≤ p.length ∧ iv = .int .i64 k ∧ PRel w p k wr) (fun iv _ => p.length - (intOf iv).toNat)
    case atStart => exact ⟨0, by omega, rfl, HS.out⟩
    case round =>
      clear HS hmk
      obtain ⟨k, hk, rfl, hR⟩ := hrel
      have HR := Lib.hid hR
      clear hR
      by_cases hlt : k < p.length
      · obtain ⟨b, off, rfl, _, hcell⟩ := (HP.out.il.later HR.out.bel).at (by omega)
        have hci := hcell k hlt
        clear hcell
        by_cases h0 : p.getD k 0 < 0
        · have E : Hid (¬ Ok p) := okUp_fail hlt (.inl h0)
          generalize p.getD k 0 = x at *
          go_wp2
          go_ret
          exact ⟨retB (by simp [E.out]), HR.out.bel⟩
        · by_cases h1 : (p.length : Int) ≤ p.getD k 0
          · have E : Hid (¬ Ok p) := okUp_fail hlt (.inr (.inl h1))
            generalize p.getD k 0 = x at *
            go_wp2
            go_ret
            exact ⟨retB (by simp [E.out]), HR.out.bel⟩
          · obtain ⟨e, hx⟩ : ∃ e : Nat, p.getD k 0 = (e : Int) := ⟨(p.getD k 0).toNat, by omega⟩
            have he : e < p.length := by omega
            have hfz := HR.out.bs.frozen e
            have hce : wr.cell? ⟨w.heap.size, e, none⟩ = some (.bool (decide ((e : Int) ∈ p.take k))) := by
              rw [HR.out.bs.cell (by rw [bvs_len, mk_len]; exact he), bvs_at (by rw [mk_len]; exact he), mk_at _ he]
            by_cases hm : (e : Int) ∈ p.take k
            · have E : Hid (¬ Ok p) := okUp_fail hlt (.inr (.inr (by rw [hx]; exact hm)))
              rw [decide_eq_true hm] at hce
              rw [hx] at hci
              clear hm hx h0 h1
              go_wp2
              go_ret
              exact ⟨retB (by simp [E.out]), HR.out.bel⟩
            · have E := Lib.hid (prel_step HR.out hlt hx he hm)
              rw [decide_eq_false hm] at hce
              rw [hx] at hci
              clear hm hx h0 h1
              go_wp2
              go_roundw
              case rel => exact ⟨k + 1, by omega, by go_num, E.out⟩
              case measure => simp [intOf]; omega
      · obtain rfl : p.length = k := by omega
        have E : Hid (Ok p) := okUp_end HR.out.ok (by omega)
        go_wp2
        go_ret
        exact ⟨retB (by simp [E.out]), HR.out.bel⟩

/-- What stands in the loop of identity. -/
def idTo (n k : Nat) : List Int := idn k ++ List.replicate (n - k) 0
theorem idTo_zero (n : Nat) : idTo n 0 = List.replicate n 0 := by simp [idTo, idn]
theorem idTo_end (n : Nat) : idTo n n = idn n := by simp [idTo]
theorem idTo_len {n k : Nat} (h : k ≤ n) : (idTo n k).length = n := by simp [idTo, idn_len]; omega
theorem idTo_set {n k : Nat} (h : k < n) : (idTo n k).set k (k : Int) = idTo n (k + 1) := by
  unfold idTo
  rw [List.set_append_right _ _ (by rw [idn_len]; exact Nat.le_refl _), idn_len, Nat.sub_self, show n - k = (n - (k + 1)) + 1 by omega, List.replicate_succ]
  simp [idn, List.range_succ]

set_option maxHeartbeats 1000000 in
theorem identity_any (n : Nat) (w : World) (hn : n ≤ 20) :
    Calls Try.prog 25 #[.int .i64 n] w fun e w' => e = .returned (.slice (some ⟨w.heap.size, 0, none⟩) n n) ∧ Bs 3 w' w.heap.size (ivs (idn n)) ∧ Below w.heap.size w w' := by
  have hmk := run_make_row' (P := Try.prog) 22 3 (.int .i64 0) 8 Try.underlying22 info_int rfl .i64 .i64 n (by omega) (by omega)
  have HS : Hid (Bs 3 (w.alloc (.cells (madeCells #[.int .i64 0] n) 3)) w.heap.size (ivs (idTo n 0))) := by
    have := Bs.made 3 w (.int .i64 0) n
    show Bs _ _ _ _
    rw [idTo_zero]; simpa [ivs] using this
  have HB : Hid (Below w.heap.size w (w.alloc (.cells (madeCells #[.int .i64 0] n) 3))) := (Below.refl _ _).alloc (Nat.le_refl _) _
  go_enter Try.func25, Try.ntmps25
  go_wp2_with fail
  go_loopw [9] (fun iv wr => ∃ k : Nat, k ≤ n ∧ iv = .int .i64 k ∧ Bs 3 wr w.heap.size (ivs (idTo n k)) ∧ Below w.heap.size w wr) (fun iv _ => n - (intOf iv).toNat)
  case atStart => exact ⟨0, by omega, rfl, HS.out, HB.out⟩
  case round =>
    clear HS HB hmk
    obtain ⟨k, hk, rfl, hR, hB⟩ := hrel
    have HR := Lib.hid hR
    have HB := Lib.hid hB
    clear hR hB
    by_cases hlt : k < n
    · have hc := HR.out.atI (i := k) (by rw [idTo_len hk]; exact hlt)
      have hf := HR.out.frozen k
      have E := Lib.hid (HR.out.setI k (k : Int))
      rw [idTo_set hlt] at E
      have E2 : Hid (Below w.heap.size w (wr.setCell ⟨w.heap.size, k, none⟩ (.int .i64 k))) := HB.out.setCell (Nat.le_refl _) _
      generalize (idTo n k).getD k 0 = x at *
      go_wp2
      go_roundw
      case rel => exact ⟨k + 1, by omega, by go_num, E.out, E2.out⟩
      case measure => simp [intOf]; omega
    · obtain rfl : n = k := by omega
      have E := HR.out
      rw [idTo_end] at E
      have E := Lib.hid E
      go_wp2
      go_ret
      exact ⟨rfl, E.out, HB.out⟩
end Go.Proofs.Ytbchdnmpohnkiaa
