/- fen.Draw. -/
import Derived.Test.YtomdjaidechjpaaV2
import Derived.Test.YtomdjaidechjpaaCk
namespace Go.Proofs.Ytomdjaidechjpaa
open Go.RowKit Go.Deep

theorem OI.low {w w' : World} {B C : Nat} {v : Value} {xs : List Int} (h : OI w B v xs) (hv : ∀ k, v.ownBlock = some k → k < C) (hb : Below C w w') : OI w' B v xs := by
  refine ⟨h.1, ?_⟩
  rcases h.2 with h | ⟨g, cap, cur, rfl, hB, hg, h1, h2, h3, h4⟩
  · exact .inl h
  · exact .inr ⟨g, cap, cur, rfl, hB, (hb.block g (hv g rfl)).trans hg, h1, h2, h3, h4⟩
theorem OI.setLow {w : World} {B : Nat} {v : Value} {xs : List Int} (h : OI w B v xs) {a : Addr} (ha : a.block < B) (u : Value) : OI (w.setCell a u) B v xs := by
  refine ⟨h.1, ?_⟩
  rcases h.2 with h | ⟨g, cap, cur, rfl, hB, hg, h1, h2, h3, h4⟩
  · exact .inl h
  · exact .inr ⟨g, cap, cur, rfl, hB, (Below.heap_setCell _ _ _ _ (by omega)).trans hg, h1, h2, h3, h4⟩
theorem OI.blk {w : World} {B : Nat} {v : Value} {xs : List Int} (h : OI w B v xs) : ∀ k, v.ownBlock = some k → k < w.heap.size := fun k hk => (World.ownsRow.lt h k hk).2
theorem OI.ipv {w : World} {B n : Nat} {R : Option Addr} {cr : Nat} {xs : List Int} (h : OI w B (.slice R n cr) xs) (hn : xs.length = n) : IP w R cr xs := by
  obtain ⟨R', cr', e, hI⟩ := h.ip
  injection e with e1 e2 e3
  subst e1 e3
  exact hI

theorem wf_le {x : Int} (h : (Lit.int .i64 x).wf = true) : x ≤ 9223372036854775807 := by
  simp [Lit.wf, IntKind.min, IntKind.max, IntKind.signed, IntKind.bits] at h; omega

set_option maxRecDepth 100000 in
set_option maxHeartbeats 2000000 in
theorem drawC_any (A A2 : Option Addr) (ca c2 : Nat) (W N : List Int) (w : World) (hW : IP w A ca W) (hN : IP w A2 c2 N) (hn : N.length < 17592186044416) (hb : ∀ j, j < N.length → N.getD j 0 ≤ 9223372036854775807) :
    Calls Try.prog 11 #[.slice A W.length ca, .slice A2 N.length c2] w (LPost w (drawC W N)) := by
  have CR := Lib.hid (right_any A ca W w hW)
  have hle := hW.le
  have hcap := hW.cap
  have hle2 := hN.le
  have hcap2 := hN.cap
  by_cases hF : WF W
  · rw [wfB_ok hF] at CR
    rw [drawC_ok hF]
    have h4 := hF.1
    have HN := Lib.hid hN
    have HF := Lib.hid hF
    have HBD := Lib.hid hb
    have CC := Lib.hid (clone_any A ca W w hW (by omega))
    clear hW hF hN hb
    go_enter Try.func11, Try.ntmps11
    go_wp2_with fail
    refine CR.out.mono ?_
    rintro e w1 ⟨rfl, rfl⟩
    clear CR
    go_wp2_with fail
    refine CC.out.mono ?_
    rintro e w1 ⟨v, rfl, hO, hB⟩
    obtain ⟨R, cr, rfl, hI⟩ := hO.ip
    have HBK : Hid (∀ k, Value.ownBlock (.slice R W.length cr) = some k → k < w1.heap.size) := hO.blk
    have HLR : Hid (cr ≤ 9223372036854775807) := hI.cap
    have HO := Lib.hid hO
    have HB := Lib.hid hB
    clear hO hB hI CC
    go_wp2_with fail
    go_loopw [7, 19] (fun ov iv wr => ∃ (j : Nat) (L out : List Int), j ≤ N.length ∧ iv = .int .i64 j ∧ OI wr w1.heap.size ov out ∧ OI wr w.heap.size (.slice R W.length cr) L ∧ L.length = W.length ∧ WF L ∧ out.length = j ∧ drF L (N.drop j) out = drF W N [] ∧ Below w.heap.size w wr ∧ w1.heap.size ≤ wr.heap.size) (fun _ iv _ => N.length - (intOf iv).toNat)
    case atStart => exact ⟨0, W, [], by omega, rfl, OI.nil _ _, HO.out, rfl, HF.out, rfl, rfl, HB.out, Nat.le_refl _⟩
    case round =>
      clear HO HB
      obtain ⟨j, L, out, hj, rfl, hO, hL, hLl, hLF, hol, hdr, hB, hs⟩ := hrel
      have HO := Lib.hid hO
      have HL := Lib.hid hL
      have HLl := Lib.hid hLl
      have HLF := Lib.hid hLF
      have HOl := Lib.hid hol
      have HD := Lib.hid hdr
      have HB := Lib.hid hB
      clear hO hL hLl hLF hol hdr hB
      by_cases hlt : j < N.length
      · obtain ⟨b, off, rfl, hbl, hcell⟩ := (HN.out.later HB.out).il.at (by omega)
        have hci := hcell j hlt
        have CF := Lib.hid (find_any R cr L (N.getD j 0) wr (HL.out.ipv HLl.out) HLF.out (HBD.out j hlt))
        rw [HLl.out] at CF
        clear hcell
        rcases pk_cases HLF.out (N.getD j 0) with ⟨hp, _⟩ | ⟨k, hp, hk, _⟩
        · have E : Hid (drF W N [] = ([], 3)) := by show _ = _; rw [← HD.out, drF_stop hlt hp]
          rw [fnd_miss hp] at CF
          unfold ptup at CF
          clear hp
          generalize N.getD j 0 = x at *
          go_wp2_with fail
          refine CF.out.mono ?_
          rintro e w2 ⟨rfl, rfl⟩
          go_wp2
          go_ret2
          rw [E.out]
          exact lpost_none HB.out
        · have E := Lib.hid ((drF_go hlt hp).symm.trans HD.out)
          rw [fnd_hit hp] at CF
          unfold ptup at CF
          have hkW : k < W.length := by have := HLl.out; omega
          obtain ⟨g, cap, hv, hg0, hg1, hg2, hg3, hg4, hg5, HL2⟩ := HL.out.form HLl.out (by omega)
          injection hv with hv1 hv2 hv3
          subst hv1 hv3
          have hgb : g < w1.heap.size := HBK.out g rfl
          have HLs := Lib.hid HL2
          have HOb : out.length < 17592186044416 := by have := HOl.out; omega
          have HKI : (k : Int) < (W.length : Int) := by omega
          have HG0 := Lib.hid hg0
          clear hp hv2 hg4 hg5 HL2 hg0 hg1 hg2 hg3
          generalize N.getD j 0 = x at *
          go_wp2_with fail
          refine CF.out.mono ?_
          rintro e w2 ⟨rfl, rfl⟩
          clear CF
          go_wp2_with (at_builtin; refine wpList_push rfl _ _ rfl w1.heap.size u7 out (k : Int) rfl HO.out rfl HOb hs (Below.refl _ _) ?_)
          intro g2 cap2 w3 hO3 hB3 _
          have HO3 := Lib.hid hO3
          have hL3 := HLs.out.low HBK.out hB3
          obtain ⟨g', cap', hv, _, hg1, hg2, hg3, hg4, hg5, _⟩ := hL3.form HLl.out (by omega)
          injection hv with hv1 hv2 hv3
          injection hv1 with hv1
          injection hv1 with hv1
          subst hv1 hv3
          have hce := hg4 k hkW
          have hfe := hg5 k
          have HL4 := Lib.hid (hL3.set k 0)
          have HO4 := Lib.hid (hO3.setLow (a := ⟨g, k, none⟩) hgb (.int .i64 0))
          have hsz3 := hB3.size
          have HB4 : Hid (Below w.heap.size w (w3.setCell ⟨g, k, none⟩ (.int .i64 0))) := (HB.out.trans (hB3.mono (by have := HB.out.size; omega))).setCell (p := ⟨g, k, none⟩) HG0.out _
          have HS4 : Hid (w1.heap.size ≤ (w3.setCell ⟨g, k, none⟩ (.int .i64 0)).heap.size) := Nat.le_trans (Nat.le_trans hs hsz3) ((Below.refl 0 w3).setCell (p := ⟨g, k, none⟩) (Nat.zero_le _) _).size
          clear hg4 hg5 hv2 hO3 hB3 hL3 HO HLs HL HB
          generalize L.getD k 0 = y at *
          go_wp2
          go_roundw
          case rel => exact ⟨j + 1, L.set k 0, out ++ [(k : Int)], by omega, by go_num, HO4.out, HL4.out, by rw [List.length_set]; exact HLl.out, HLF.out.set k, by simp [HOl.out], E.out, HB4.out, HS4.out⟩
          case measure => simp [intOf]; omega
      · obtain rfl : j = N.length := by omega
        have E : Hid (drF W N [] = (out, 0)) := by show _ = _; rw [← HD.out, List.drop_length, drF_nil]
        go_wp2
        go_ret2
        rw [E.out]
        exact lpost_oi HO.out HB.out
  · rw [wfB_no hF] at CR
    rw [drawC_no hF]
    clear hW hF hN
    go_enter Try.func11, Try.ntmps11
    go_wp2_with fail
    refine CR.out.mono ?_
    rintro e w1 ⟨rfl, rfl⟩
    go_wp2
    go_ret2
    exact lpost_none (Below.refl _ _)
end Go.Proofs.Ytomdjaidechjpaa
