import Derived.Test.YtnihcpaakbhpcaaGn
import Derived.Test.YtnihcpaakbhpcaaMxc
/- lotdrawerref.LLeast: the walk. -/
namespace Go.Proofs.Ytnihcpaakbhpcaa
open Go.RowKit Go.Deep

def slen (v : Value) : Nat := match v with
  | .slice _ n _ => n
  | _ => 0
theorem mem_take_succ {l : List W64} {m : Nat} {x : W64} (h : m < l.length) : x ∈ l.take (m + 1) ↔ x ∈ l.take m ∨ x = l.getD m 0 := by
  rw [take_getD h, List.mem_append, List.mem_singleton]
theorem wlt (x y : W64) : decide ((x.toNat : Int) < (y.toNat : Int)) = decide (x.toNat < y.toNat) := by rw [decide_eq_decide]; omega

set_option maxRecDepth 100000 in
set_option maxHeartbeats 4000000 in
theorem lleast_any (s : W64) (r : Int) (A : Option Addr) (ca : Nat) (l : List W64) (w : World) (hl : UP w A ca l) (h1 : 1 ≤ r) (h2 : r ≤ 400) (hs : l.length ≤ 17592186044416) :
    Calls Try.prog 21 #[.int .u64 (s.toNat : Int), .int .i64 r, .slice A l.length ca] w (UPost w (skL s r l)) := by
  have hle := hl.le
  have hcap := hl.cap
  have HL := Lib.hid hl
  obtain ⟨n, hn⟩ : ∃ n, l.length = n := ⟨_, rfl⟩
  obtain ⟨res, hres⟩ : ∃ res, skL s r l = res := ⟨_, rfl⟩
  have HRes : Hid (∀ j : Nat, (j : Int) = r → (ful (rk s) l).take j = res) := fun j hj => by
    rw [← hres]; unfold skL ske; rw [show r.toNat = j by omega]
  have HRes2 : Hid (∀ j : Nat, (j : Int) ≤ r → ful (rk s) l = (ful (rk s) l).take j → ful (rk s) l = res) := fun j hj e => by
    rw [← hres]; unfold skL ske
    have : (ful (rk s) l).length ≤ j := by rw [e, List.length_take]; omega
    rw [List.take_of_length_le (by omega)]
  have HN : Hid (l.length = n) := hn
  rw [hn] at hle hs
  rw [hn, hres]
  clear hl hn hres
  go_enter Try.func21, Try.ntmps21
  go_wp2_with fail
  go_loopw [7] (fun ov wr => ∃ (out : List W64) (R : Option Addr) (c j : Nat), ov = .slice R j c ∧ out.length = j ∧ out = (ful (rk s) l).take j ∧ (j : Int) ≤ r ∧ OU wr w.heap.size (.slice R j c) out ∧ Below w.heap.size w wr) (fun ov _ => r.toNat - slen ov)
  case atStart => exact ⟨[], none, 0, 0, rfl, rfl, by simp, by omega, OU.nil _ _, Below.refl _ _⟩
  case round =>
    obtain ⟨out, R, c, j, rfl, ho1, ho2, hjr, hO, hb⟩ := hrel
    have HO1 := Lib.hid ho1
    have HO2 := Lib.hid ho2
    have HO := Lib.hid hO
    have HB := Lib.hid hb
    have hup := hO.upv ho1
    have HUP := Lib.hid hup
    have hjc := hup.le
    have hcc := hup.cap
    rw [ho1] at hjc
    clear ho1 ho2 hO hb hup
    by_cases hlt : (j : Int) < r
    · obtain ⟨w0, hw0⟩ : ∃ w0, w0 = wr := ⟨_, rfl⟩
      subst hw0
      go_wp2_with fail
      go_loopw [8, 9, 21] (fun bv sv kv wq => ∃ (k : Nat) (b : W64) (sm : Bool), k ≤ n ∧ kv = .int .i64 k ∧ bv = .int .u64 (b.toNat : Int) ∧ sv = .bool sm ∧ BI s l out k b sm ∧ Below w0.heap.size w0 wq) (fun _ _ kv _ => n - (intOf kv).toNat)
      case atStart => exact ⟨0, 0, false, by omega, rfl, rfl, rfl, BI.zero s l out 0, Below.refl _ _⟩
      case round =>
        obtain ⟨k, b, sm, hk, rfl, rfl, rfl, hI, hbq⟩ := hrel
        have HI := Lib.hid hI
        have HBQ := Lib.hid hbq
        clear hI hbq
        by_cases hkn : k < n
        · obtain ⟨bl, off, rfl, _, hcell⟩ := ((HL.out.later HB.out).later HBQ.out).ul.at (by rw [HN.out]; omega)
          have ck := hcell k (by rw [HN.out]; exact hkn)
          have HKL : Hid (k < l.length) := by show _ < _; rw [HN.out]; exact hkn
          have HUQ := Lib.hid (HUP.out.later HBQ.out)
          obtain ⟨x, hx⟩ : ∃ x, l.getD k 0 = x := ⟨_, rfl⟩
          have HX := Lib.hid hx
          rw [hx] at ck
          clear hcell hx
          go_wp2_with fail
          go_loopw [12, 27] (fun hv mv wz => ∃ m : Nat, m ≤ j ∧ mv = .int .i64 m ∧ hv = .bool (decide (x ∈ out.take m)) ∧ wz = wr) (fun _ mv _ => j - (intOf mv).toNat)
          case atStart => exact ⟨0, by omega, rfl, by simp, rfl⟩
          case round =>
            obtain ⟨m, hm, rfl, rfl, rfl⟩ := hrel
            by_cases hmj : m < j
            · obtain ⟨b3, o3, rfl, _, hc3⟩ := HUQ.out.ul.at (by rw [HO1.out]; omega)
              have cm := hc3 m (by rw [HO1.out]; exact hmj)
              have hms := @mem_take_succ out m x (by rw [HO1.out]; exact hmj)
              clear hc3
              generalize out.getD m 0 = z at *
              by_cases hin : x ∈ out.take m
              · rw [decide_eq_true hin]
                have HD : Hid (decide (x ∈ out.take (m + 1)) = true) := decide_eq_true (hms.2 (.inl hin))
                clear hms hin
                go_wp2
                go_roundw
                case rel => exact ⟨m + 1, by omega, by go_num, by rw [HD.out], trivial⟩
                case measure => simp [intOf]; omega
              · rw [decide_eq_false hin]
                by_cases hxz : x = z
                · have HD : Hid (decide (x ∈ out.take (m + 1)) = true) := decide_eq_true (hms.2 (.inr hxz))
                  have t1 : ((x.toNat : Int) == (z.toNat : Int)) = true := by rw [intEq]; exact decide_eq_true hxz
                  clear hms hin hxz
                  go_wp2
                  go_roundw
                  case rel => exact ⟨m + 1, by omega, by go_num, by rw [HD.out], trivial⟩
                  case measure => simp [intOf]; omega
                · have HD : Hid (decide (x ∈ out.take (m + 1)) = false) := decide_eq_false (fun h => (hms.1 h).elim hin hxz)
                  have t1 : ((x.toNat : Int) == (z.toNat : Int)) = false := by rw [intEq]; exact decide_eq_false hxz
                  clear hms hin hxz
                  go_wp2
                  go_roundw
                  case rel => exact ⟨m + 1, by omega, by go_num, by rw [HD.out], trivial⟩
                  case measure => simp [intOf]; omega
            · obtain rfl : m = j := by omega
              have htk : out.take m = out := by rw [← HO1.out, List.take_length]
              rw [htk]
              clear htk
              by_cases hin : x ∈ out
              · rw [decide_eq_true hin]
                have HN2 := Lib.hid (HI.out.had HKL.out (by rw [HX.out]; exact hin))
                clear hin
                go_wp2
                go_roundw
                case rel => exact ⟨k + 1, b, sm, by omega, by go_num, rfl, rfl, HN2.out, HBQ.out⟩
                case measure => simp [intOf]; omega
              · rw [decide_eq_false hin]
                cases sm
                · have HN2 := HI.out.new HKL.out (by rw [HX.out]; exact hin) (.inl rfl)
                  rw [HX.out] at HN2
                  have HN2 := Lib.hid HN2
                  clear hin
                  go_wp2
                  go_roundw
                  case rel => exact ⟨k + 1, x, true, by omega, by go_num, rfl, rfl, HN2.out, HBQ.out⟩
                  case measure => simp [intOf]; omega
                · have e1 := xor_w x s
                  have e2 := xor_w b s
                  have C1 : Hid (∀ w, Calls Try.prog 11 _ w _) := fun w => lmix_any (x ^^^ s) w
                  have C2 : Hid (∀ w, Calls Try.prog 11 _ w _) := fun w => lmix_any (b ^^^ s) w
                  have tl := wlt (mix (x ^^^ s)) (mix (b ^^^ s))
                  have HRX : Hid (rk s x = (mix (x ^^^ s)).toNat) := rfl
                  have HRB : Hid (rk s b = (mix (b ^^^ s)).toNat) := rfl
                  generalize mix (x ^^^ s) = mx at *
                  generalize mix (b ^^^ s) = mb at *
                  generalize x ^^^ s = xs at *
                  generalize b ^^^ s = bs at *
                  by_cases hlt2 : mx.toNat < mb.toNat
                  · have HN2 := HI.out.new HKL.out (by rw [HX.out]; exact hin) (.inr (by rw [HX.out, HRX.out, HRB.out]; exact hlt2))
                    rw [HX.out] at HN2
                    have HN2 := Lib.hid HN2
                    rw [decide_eq_true hlt2] at tl
                    clear hin
                    go_wp2_with fail
                    refine (C1.out _).mono ?_
                    rintro e w1 ⟨rfl, hb1⟩
                    have HB1 := Lib.hid (HBQ.out.trans (hb1.mono HBQ.out.size))
                    clear hb1 C1
                    go_wp2_with fail
                    refine (C2.out _).mono ?_
                    rintro e w2 ⟨rfl, hb2⟩
                    have HB2 := Lib.hid (HB1.out.trans (hb2.mono HB1.out.size))
                    clear hb2 C2
                    go_wp2
                    go_roundw
                    case rel => exact ⟨k + 1, x, true, by omega, by go_num, rfl, rfl, HN2.out, HB2.out⟩
                    case measure => simp [intOf]; omega
                  · have HN2 := Lib.hid (HI.out.old HKL.out (by rw [HX.out, HRX.out, HRB.out]; exact hlt2))
                    rw [decide_eq_false hlt2] at tl
                    clear hin
                    go_wp2_with fail
                    refine (C1.out _).mono ?_
                    rintro e w1 ⟨rfl, hb1⟩
                    have HB1 := Lib.hid (HBQ.out.trans (hb1.mono HBQ.out.size))
                    clear hb1 C1
                    go_wp2_with fail
                    refine (C2.out _).mono ?_
                    rintro e w2 ⟨rfl, hb2⟩
                    have HB2 := Lib.hid (HB1.out.trans (hb2.mono HB1.out.size))
                    clear hb2 C2
                    go_wp2
                    go_roundw
                    case rel => exact ⟨k + 1, b, true, by omega, by go_num, rfl, rfl, HN2.out, HB2.out⟩
                    case measure => simp [intOf]; omega
        · obtain rfl : k = n := by omega
          have hI := HI.out
          rw [← HN.out] at hI
          have hD := hI.done HO2.out
          have HBW := Lib.hid (HB.out.trans (HBQ.out.mono HB.out.size))
          have HOQ := Lib.hid (HO.out.later HBQ.out)
          clear hI HI
          rcases hD with ⟨rfl, hD⟩ | ⟨rfl, hD, hjl⟩
          · have HE : Hid (out = res) := by
              show _ = _
              rw [hD]
              exact HRes2.out j hjr (hD.symm.trans HO2.out)
            clear hD HRes HRes2
            go_wp2
            go_ret
            exact ⟨_, rfl, by rw [← HE.out]; exact HOQ.out, HBW.out⟩
          · have HOD := Lib.hid hD
            have hbel : Below w.heap.size w wr := HBW.out
            have hsz := hbel.size
            have hxl : out.length < 17592186044416 := by rw [HO1.out]; omega
            have hol : (out ++ [b]).length = j + 1 := by rw [List.length_append, HO1.out]; rfl
            have HOL := Lib.hid hol
            clear hD hjl HBQ hol
            go_wp2_with (at_builtin; refine wpList_pushU rfl _ _ rfl w.heap.size (.slice R j c) out b rfl HOQ.out rfl hxl hsz HBW.out ?_)
            intro g cap w5 hO5 hB5 _
            rw [HO1.out] at hO5 ⊢
            have HO5 := Lib.hid hO5
            have HB5 := Lib.hid hB5
            clear hO5 hB5 hbel hsz hxl
            go_wp2
            go_roundw
            case rel => exact ⟨out ++ [b], some ⟨g, 0, none⟩, cap, j + 1, rfl, HOL.out, HOD.out, by omega, HO5.out, HB5.out⟩
            case measure => simp [slen]; omega
    · obtain rfl : (j : Int) = r := by omega
      have HE : Hid (out = res) := by show _ = _; rw [HO2.out]; exact HRes.out j rfl
      clear HRes HRes2
      go_wp2
      go_ret
      exact ⟨_, rfl, by rw [← HE.out]; exact HO.out, HB.out⟩
end Go.Proofs.Ytnihcpaakbhpcaa
