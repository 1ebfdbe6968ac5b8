/- StatsMiddle's closure: who stands at a place. -/
import Derived.Test.YtclfimpcacoefaaMo4
import Derived.Test.YtclfimpcacoefaaMo7
namespace Go.Proofs.Ytclfimpcacoefaa
open Go.RowKit Go.Deep

theorem clt_succ {l : List Int} {k : Nat} (v : Int) (h : k < l.length) : clt (l.take (k + 1)) v = clt (l.take k) v + if l.getD k 0 < v then 1 else 0 := by
  rw [take_snoc h, clt_snoc]
theorem ceq_succ {l : List Int} {k : Nat} (v : Int) (h : k < l.length) : ceq (l.take (k + 1)) v = ceq (l.take k) v + if l.getD k 0 = v then 1 else 0 := by
  rw [take_snoc h, ceq_snoc]
/-- It stands at place k. -/
def hitM (x : List Int) (k : Nat) (v : Int) : Prop := clt x v ≤ k ∧ (k : Int) < clt x v + ceq x v
theorem hitM_eq {x : List Int} {k : Nat} {v : Int} (hk : k < x.length) (h : hitM x k v) : v = (imsort x).getD k 0 := by
  have h1 := at_place hk
  have h2 := cle_parts v x
  exact at_only h.1 (by rw [h2]; exact h.2) h1.2.1 h1.2.2
theorem hitM_some {x : List Int} {k : Nat} (hk : k < x.length) : ∃ j, j < x.length ∧ hitM x k (x.getD j 0) := by
  obtain ⟨h1, h2, h3⟩ := at_place hk
  obtain ⟨j, hj, e⟩ := List.getElem_of_mem h1
  refine ⟨j, hj, ?_⟩
  have : x.getD j 0 = (imsort x).getD k 0 := by
    rw [List.getD_eq_getElem?_getD, List.getElem?_eq_getElem hj, Option.getD_some, e]
  rw [this]
  exact ⟨h2, by rw [← cle_parts]; exact h3⟩

set_option maxRecDepth 100000 in
set_option maxHeartbeats 3000000 in
theorem at1_any (g : Nat) (A : Option Addr) (ca : Nat) (x : List Int) (k : Nat) (w : World) (hx : IP w A ca x) (ox : okl x) (hk : k < x.length) (hg : w.cell? ⟨g, 0, none⟩ = some (.slice A x.length ca)) :
    Calls Try.prog 18 #[.int .i64 k, .pointer (some ⟨g, 0, none⟩)] w fun e w' => e = .returned (.int .i64 ((imsort x).getD k 0)) ∧ w' = w := by
  have hle := hx.le
  have hcap := hx.cap
  have h4 := ox.1
  have HX := Lib.hid hx
  have HK := Lib.hid (hitM_some hk)
  have HV := Lib.hid (fun v (h : hitM x k v) => hitM_eq hk h)
  obtain ⟨V, hV⟩ : ∃ V, (imsort x).getD k 0 = V := ⟨_, rfl⟩
  rw [hV] at HV ⊢
  have hk9 : k < 400 := by omega
  clear hx ox hV
  go_enter Try.func18, Try.ntmps18
  go_wp2
  go_loopw [12] (fun i wr => ∃ m : Nat, m ≤ x.length ∧ i = .int .i64 m ∧ (∀ j, j < m → ¬ hitM x k (x.getD j 0)) ∧ w = wr) (fun i _ => x.length - (intOf i).toNat)
  case atStart => exact ⟨0, by omega, rfl, fun j hj => by omega, rfl⟩
  case round =>
    obtain ⟨m, hm, rfl, hN, hB⟩ := hrel
    subst hB
    have HN := Lib.hid hN
    clear hN
    by_cases hlt : m < x.length
    · obtain ⟨b, off, rfl, _, hcell⟩ := HX.out.il.at (by omega)
      have hci := hcell m hlt
      have HCE := Lib.hid hcell
      have HN2 : Hid (¬ hitM x k (x.getD m 0) → ∀ j, j < m + 1 → ¬ hitM x k (x.getD j 0)) := fun h j hj => by
        by_cases e : j = m
        · rw [e]; exact h
        · exact HN.out j (by omega)
      have HV2 := Lib.hid (HV.out (x.getD m 0))
      clear hcell
      generalize x.getD m 0 = v at *
      go_wp2
      go_loopw [6, 7, 18] (fun a e i wr => ∃ j : Nat, j ≤ x.length ∧ a = .int .i64 (clt (x.take j) v) ∧ e = .int .i64 (ceq (x.take j) v) ∧ i = .int .i64 j ∧ w = wr) (fun _ _ i _ => x.length - (intOf i).toNat)
      case atStart => exact ⟨0, by omega, rfl, rfl, rfl, rfl⟩
      case round =>
        clear hci
        obtain ⟨j, hj, rfl, rfl, rfl, hB⟩ := hrel
        subst hB
        by_cases hjl : j < x.length
        · have hcj := HCE.out j hjl
          have E1 := Lib.hid (clt_succ v hjl)
          have E2 := Lib.hid (ceq_succ v hjl)
          have b1 := clt_le (x.take j) v
          have b2 := ceq_le (x.take j) v
          rw [List.length_take] at b1 b2
          have b3 : 0 ≤ clt (x.take j) v ∧ clt (x.take j) v ≤ 400 := by omega
          have b4 : 0 ≤ ceq (x.take j) v ∧ ceq (x.take j) v ≤ 400 := by omega
          clear b1 b2 hg
          generalize clt (x.take j) v = P at *
          generalize ceq (x.take j) v = Q at *
          generalize x.getD j 0 = y at *
          by_cases h1 : y < v
          · have h2 : ¬ y = v := by omega
            have t2 : (y == v) = false := by rw [beq_eq_false_iff_ne]; exact h2
            rw [if_pos h1] at E1
            rw [if_neg h2, Int.add_zero] at E2
            clear h2
            go_wp2
            go_roundw
            case rel => exact ⟨j + 1, by omega, by rw [E1.out], by rw [E2.out], by go_num, by first | rfl | trivial⟩
            case measure => simp [intOf]; omega
          · rw [if_neg h1, Int.add_zero] at E1
            by_cases h2 : y = v
            · rw [if_pos h2] at E2
              have t2 : (y == v) = true := by rw [h2]; exact beq_self_eq_true v
              clear h2
              go_wp2
              go_roundw
              case rel => exact ⟨j + 1, by omega, by rw [E1.out], by rw [E2.out], by go_num, by first | rfl | trivial⟩
              case measure => simp [intOf]; omega
            · rw [if_neg h2, Int.add_zero] at E2
              have t2 : (y == v) = false := by rw [beq_eq_false_iff_ne]; exact h2
              clear h2
              go_wp2
              go_roundw
              case rel => exact ⟨j + 1, by omega, by rw [E1.out], by rw [E2.out], by go_num, by first | rfl | trivial⟩
              case measure => simp [intOf]; omega
        · obtain rfl : j = x.length := by omega
          have HH : Hid (hitM x k v ↔ clt x v ≤ k ∧ (k : Int) < clt x v + ceq x v) := Iff.rfl
          rw [List.take_length]
          have b1 := clt_le x v
          have b2 := ceq_le x v
          have b3 : 0 ≤ clt x v ∧ clt x v ≤ 400 := by omega
          have b4 : 0 ≤ ceq x v ∧ ceq x v ≤ 400 := by omega
          clear b1 b2
          generalize clt x v = P at *
          generalize ceq x v = Q at *
          by_cases h1 : P ≤ k
          · by_cases h2 : (k : Int) < P + Q
            · have R := Lib.hid (HV2.out (HH.out.2 ⟨h1, h2⟩))
              go_wp2
              go_ret
              exact ⟨by rw [← R.out]; rfl, rfl⟩
            · have R := Lib.hid (HN2.out (fun h => h2 (HH.out.1 h).2))
              go_wp2
              go_roundw
              case rel => exact ⟨m + 1, by omega, by go_num, R.out, by first | rfl | trivial⟩
              case measure => simp [intOf]; omega
          · have R := Lib.hid (HN2.out (fun h => h1 (HH.out.1 h).1))
            go_wp2
            go_roundw
            case rel => exact ⟨m + 1, by omega, by go_num, R.out, by first | rfl | trivial⟩
            case measure => simp [intOf]; omega
    · obtain rfl : m = x.length := by omega
      exfalso
      obtain ⟨j, hj, hh⟩ := HK.out
      exact HN.out j hj hh
end Go.Proofs.Ytclfimpcacoefaa
