/- perm.Rank, perm.Then, perm.Back. -/
import Derived.Test.YtbchdnmpohnkiaaP2
namespace Go.Proofs.Ytbchdnmpohnkiaa
open Go.RowKit Go.Deep

def rankR (p : List Int) : Int × Int := if Ok p then ((rank p : Int), 0) else (0, 1)
theorem horn_step {q : List Nat} {k : Nat} (hk : k < q.length) (a : Nat) : horn a (q.drop k) = horn (a * (q.length - k) + q.getD k 0) (q.drop (k + 1)) := by
  rw [List.drop_eq_getElem_cons hk, horn]
  have e : (q.drop (k + 1)).length + 1 = q.length - k := by simp; omega
  rw [e]
  simp [List.getD_eq_getElem?_getD, hk]

theorem horn_num {a c d m n k : Nat} (h : (n : Int) - (k : Int) = (d : Int)) (h2 : (a : Int) * (d : Int) = (m : Int)) (hb : m + c ≤ 2432902008176640000) : Value.int .i64 (wrap64 (wrap64 ((a : Int) * ((n : Int) - (k : Int))) + (c : Int))) = .int .i64 ((m + c : Nat) : Int) := by
  rw [h, h2]
  congr 1
  unfold wrap64
  omega

set_option maxRecDepth 100000 in
set_option maxHeartbeats 1000000 in
theorem permRank_any (A : Option Addr) (ca : Nat) (p : List Int) (w : World) (hp : IP w A ca p) :
    Calls Try.prog 17 #[.slice A p.length ca] w fun e w' => e = .returned (ptup (rankR p)) ∧ Below w.heap.size w w' := by
  have C := Lib.hid (permCode_any A ca p w hp)
  have hle := hp.le
  have hcap := hp.cap
  clear hp
  unfold rankR codeR at *
  by_cases hok : Ok p
  · rw [if_pos hok]
    rw [if_pos hok] at C
    have hlen := hok.len
    have hq : (code p).length = p.length := code_len p
    have hd := rank_lt p
    have hf := fact_small hlen
    have hr : horn 0 ((code p).drop 0) = rank p := by rw [List.drop_zero, horn_eq]; simp [rank]
    have HR := Lib.hid hr
    have hr2 : rank p < 2432902008176640000 := by omega
    generalize rank p = r at *
    generalize code p = q at *
    clear hok hd hf hr
    unfold ptup
    go_enter Try.func17, Try.ntmps17
    go_wp2_with fail
    refine C.out.mono ?_
    rintro e w1 ⟨R, cr, rfl, hI, hB⟩
    have HI := Lib.hid hI
    have HB := Lib.hid hB
    have hl : (ints q).length = q.length := ints_len q
    clear C hI hB
    unfold ltup
    simp only [] at HI ⊢
    go_wp2_with fail
    go_loopw [6, 19] (fun av iv wr => ∃ a k : Nat, k ≤ q.length ∧ av = .int .i64 a ∧ iv = .int .i64 k ∧ horn a (q.drop k) = r ∧ wr = w1) (fun _ iv _ => q.length - (intOf iv).toNat)
    case atStart => exact ⟨0, 0, by omega, rfl, rfl, HR.out, rfl⟩
    case round =>
      clear HR
      obtain ⟨a, k, hk, rfl, rfl, hh, rfl⟩ := hrel
      by_cases hlt : k < q.length
      · obtain ⟨b, off, rfl, _, hcell⟩ := HI.out.il.at (by omega)
        have hci := hcell k (by omega)
        rw [ints_at] at hci
        rw [horn_step hlt] at hh
        have hge := horn_ge (q.drop (k + 1)) (a * (q.length - k) + q.getD k 0)
        rw [hh] at hge
        have HH := Lib.hid hh
        clear hcell hh
        have e1 : ((ints q).length : Int) - (k : Int) = ((q.length - k : Nat) : Int) := by omega
        generalize q.getD k 0 = c at *
        have e2 : (a : Int) * ((q.length - k : Nat) : Int) = ((a * (q.length - k) : Nat) : Int) := by simp
        have hdl : q.length - k ≤ 20 := by omega
        generalize a * (q.length - k) = m at *
        obtain ⟨d, hd⟩ : ∃ d, q.length - k = d := ⟨_, rfl⟩
        rw [hd] at e1 e2 hdl
        have i1 : (k : Int) < ((ints q).length : Int) := by omega
        clear hd
        go_wp2
        go_roundw
        case rel => exact ⟨m + c, k + 1, by omega, horn_num (by omega) e2 (by omega), by go_num, HH.out, trivial⟩
        case measure => simp [intOf]; omega
      · obtain rfl : q.length = k := by omega
        rw [List.drop_length, horn] at hh
        subst hh
        go_wp2
        go_ret2
        exact ⟨rfl, HB.out⟩
  · rw [if_neg hok]
    rw [if_neg hok] at C
    clear hok
    unfold ptup
    go_enter Try.func17, Try.ntmps17
    go_wp2_with fail
    refine C.out.mono ?_
    rintro e w1 ⟨R, cr, rfl, hI, hB⟩
    have HB := Lib.hid hB
    clear hI hB C
    unfold ltup
    go_wp2
    go_ret2
    exact ⟨rfl, HB.out⟩
end Go.Proofs.Ytbchdnmpohnkiaa
