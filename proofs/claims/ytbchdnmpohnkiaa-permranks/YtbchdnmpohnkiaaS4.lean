/- lotdrawerref.DAt. -/
import Derived.Test.YtbchdnmpohnkiaaS3
import Derived.Test.YtbchdnmpohnkiaaMb
import Derived.Test.YtbchdnmpohnkiaaPf
import Derived.Test.YtbchdnmpohnkiaaP6
namespace Go.Proofs.Ytbchdnmpohnkiaa
open Go.RowKit Go.Deep

theorem rc_drop {cs : List Nat} {i : Nat} (h : i < cs.length) : rc (cs.drop i) = cs.getD i 0 * fact (cs.length - (i + 1)) + rc (cs.drop (i + 1)) := by
  rw [List.drop_eq_getElem_cons h, rc, List.length_drop]
  simp [List.getD_eq_getElem?_getD, h]
theorem dig_drop : ∀ {cs : List Nat} (i : Nat), dig cs → dig (cs.drop i)
  | _, 0, h => h
  | [], _ + 1, _ => trivial
  | _ :: cs, i + 1, h => dig_drop (cs := cs) i h.2
theorem rc_parts {cs : List Nat} {i : Nat} (hd : dig cs) (h : i < cs.length) : rc (cs.drop i) / fact (cs.length - (i + 1)) = cs.getD i 0 ∧ rc (cs.drop i) % fact (cs.length - (i + 1)) = rc (cs.drop (i + 1)) := by
  have hl := rc_lt (dig_drop (i + 1) hd)
  rw [List.length_drop] at hl
  rw [rc_drop h, Nat.mul_comm]
  refine ⟨?_, ?_⟩
  · rw [Nat.mul_add_div (fact_pos _), Nat.div_eq_of_lt hl]; rfl
  · rw [Nat.mul_add_mod, Nat.mod_eq_of_lt hl]
theorem asc_left {cs : List Nat} : ∀ {u : List Int} (i : Nat), asc u → asc (left u cs i) := by
  induction cs with
  | nil => intro u i h; cases i <;> exact h
  | cons c cs ih =>
    intro u i h
    cases i with
    | zero => exact h
    | succ i => exact ih i (asc_erase h c)
theorem left_sub {cs : List Nat} : ∀ {u : List Int} (i : Nat) (x : Int), x ∈ left u cs i → x ∈ u := by
  induction cs with
  | nil => intro u i x h; cases i <;> exact h
  | cons c cs ih =>
    intro u i x h
    cases i with
    | zero => exact h
    | succ i => exact (List.eraseIdx_sublist u c).subset (ih i x h)
theorem asc_nodup {u : List Int} (h : asc u) : u.Nodup := List.Pairwise.imp (fun h => by omega) h
theorem cnt_up {u : List Int} (h : u.Nodup) (x : Int) : cnt (x + 1) u = cnt x u + if x ∈ u then 1 else 0 := by
  have e : cnt (x + 1) u = cnt x u + u.count x := by
    clear h
    induction u with
    | nil => rfl
    | cons y u ih =>
      have c1 : cnt (x + 1) (y :: u) = cnt (x + 1) u + if y < x + 1 then 1 else 0 := by unfold cnt; by_cases h : y < x + 1 <;> simp [h]
      have c2 : cnt x (y :: u) = cnt x u + if y < x then 1 else 0 := by unfold cnt; by_cases h : y < x <;> simp [h]
      rw [c1, c2, ih, List.count_cons]
      by_cases h1 : y < x
      · have : ¬ (y == x) = true := by rw [beq_iff_eq]; omega
        rw [if_pos h1, if_pos (by omega), if_neg this]; omega
      · by_cases h2 : y = x
        · subst h2
          rw [if_neg h1, if_pos (by omega), if_pos (by simp)]; omega
        · have : ¬ (y == x) = true := by rw [beq_iff_eq]; exact h2
          rw [if_neg h1, if_neg (by omega), if_neg this]; omega
  rw [e, h.count]
theorem cnt_mono {u : List Int} {x y : Int} (h : x ≤ y) : cnt x u ≤ cnt y u := List.countP_mono_left (fun z _ hz => by simp at hz ⊢; omega)
theorem mem_erase {u : List Int} (h : u.Nodup) {c : Nat} (hc : c < u.length) (x : Int) : x ∈ u.eraseIdx c ↔ x ∈ u ∧ x ≠ u.getD c 0 := by
  have hp := erase_perm hc
  have hn := hp.nodup_iff.1 h
  rw [List.nodup_cons] at hn
  rw [hp.mem_iff, List.mem_cons]
  constructor
  · intro hx
    exact ⟨.inr hx, fun e => hn.1 (e ▸ hx)⟩
  · rintro ⟨rfl | h1, h2⟩
    · exact absurd rfl h2
    · exact h1
/-- What a step of the search does. -/
theorem seek_step {u : List Int} (h : asc u) {c : Nat} (hc : c < u.length) {x s : Nat} (hs : s + cnt (x : Int) u = c) (hx : (x : Int) < u.getD c 0) :
    ((x : Int) ∈ u → 1 ≤ s ∧ (s - 1) + cnt (((x + 1 : Nat)) : Int) u = c) ∧ ((x : Int) ∉ u → s + cnt (((x + 1 : Nat)) : Int) u = c) := by
  have e := cnt_up (asc_nodup h) (x : Int)
  have e2 : (((x + 1 : Nat)) : Int) = (x : Int) + 1 := by omega
  have hm : cnt ((x : Int) + 1) u ≤ cnt (u.getD c 0) u := cnt_mono (by omega)
  rw [cnt_self h hc] at hm
  rw [e2]
  constructor
  · intro hx
    rw [if_pos hx] at e
    omega
  · intro hx
    rw [if_neg hx] at e
    omega

/-- What stands between two rounds. -/
def TRel (w : World) (n : Nat) (cs : List Nat) (i : Nat) (v : Value) (wr : World) : Prop :=
  OI wr (w.heap.size + 1) v ((pick (idn n) cs).take i) ∧ (∃ S : Int → Bool, SetM wr w.heap.size i S ∧ ∀ x : Nat, x < n → S (x : Int) = decide ((x : Int) ∉ left (idn n) cs i)) ∧ Below w.heap.size w wr
theorem trel_start (w : World) (n : Nat) (cs : List Nat) : TRel w n cs 0 (.slice none 0 0) (w.alloc (.map #[] 0)) := by
  refine ⟨OI.nil _ _, ⟨_, SetM.made w, fun x hx => ?_⟩, (Below.refl _ _).alloc (Nat.le_refl _) _⟩
  rw [left_zero]
  symm
  rw [decide_eq_false_iff_not]
  intro h
  exact h (mem_idn.2 ⟨by omega, by omega⟩)
theorem trel_step {w w1 w2 : World} {n i g cap t : Nat} {cs : List Nat} {v : Value} {S : Int → Bool} (hd : dig cs) (hl : cs.length = n) (hi : i < n) (ht : (left (idn n) cs i).getD (cs.getD i 0) 0 = (t : Int))
    (hS : ∀ x : Nat, x < n → S (x : Int) = decide ((x : Int) ∉ left (idn n) cs i))
    (h1 : SetM w1 w.heap.size (i + 1) (fun z => z == (t : Int) || S z)) (h2 : OI w2 (w.heap.size + 1) (.slice (some ⟨g, 0, none⟩) (i + 1) cap) ((pick (idn n) cs).take i ++ [(t : Int)]))
    (hg : (w1.alloc (.cells #[.int .i64 (t : Int)] 3)).grownBy w2 v.ownBlock) (hv : v.ownBlock = none ∨ v.ownBlock ≠ some w.heap.size) (hB : Below w.heap.size w w2) : TRel w n cs (i + 1) (.slice (some ⟨g, 0, none⟩) (i + 1) cap) w2 := by
  refine ⟨?_, ⟨_, (h1.alloc _).kept hg (fun e => ?_), fun x hx => ?_⟩, hB⟩
  · rw [take_snoc (by rw [pick_len, hl]; exact hi), pick_at _ _ _ (by omega), ht]
    exact h2
  · rcases hv with h | h
    · rw [h] at e; cases e
    · exact h e.symm
  · rw [hS x hx, left_succ _ _ _ (by omega)]
    have ha := asc_nodup (asc_left (cs := cs) i (asc_idn n))
    have hc : cs.getD i 0 < (left (idn n) cs i).length := by
      rw [left_len hd (by rw [idn_len, hl]) (by omega)]
      have := dig_at hd (show i < cs.length by omega)
      omega
    have hm := mem_erase ha hc (x : Int)
    rw [ht] at hm
    rw [Bool.eq_iff_iff, Bool.or_eq_true, beq_iff_eq, decide_eq_true_eq, decide_eq_true_eq, hm]
    constructor
    · rintro (h | h)
      · exact fun h2 => h2.2 h
      · exact fun h2 => h h2.1
    · intro h
      by_cases e : (x : Int) = (t : Int)
      · exact .inl e
      · exact .inr (fun h2 => h ⟨h2, e⟩)
theorem wf_small {x : Nat} (h : x ≤ 1000) : (Lit.int .i64 (x : Int)).wf = true := by
  simp only [Lit.wf, Bool.and_eq_true, decide_eq_true_eq]
  exact ⟨Int.le_trans (show IntKind.i64.min ≤ 0 by decide) (by omega), Int.le_trans (show (x : Int) ≤ 1000 by omega) (by decide)⟩

theorem atR_out {n r : Int} (h : n < 0 ∨ 20 < n ∨ r < 0) : atR n r = ([], 2) := if_pos h
theorem atR_none {n r : Nat} (h : n ≤ 20) (hr : fact n ≤ r) : atR (n : Int) (r : Int) = ([], 3) := by
  unfold atR
  rw [if_neg (by omega), Int.toNat_natCast, Int.toNat_natCast, if_pos]
  intro h0
  have := Nat.div_pos hr (fact_pos n)
  omega
theorem atR_some {n r : Nat} (h : n ≤ 20) (hr : r < fact n) : atR (n : Int) (r : Int) = (pick (idn n) (fd n r).1, 0) := by
  unfold atR
  rw [if_neg (by omega), Int.toNat_natCast, Int.toNat_natCast, Nat.div_eq_of_lt hr, if_neg (by omega)]

set_option maxRecDepth 100000 in
set_option maxHeartbeats 2000000 in
theorem dat_any (n r : Int) (w : World) (hrm : r ≤ 9223372036854775807) :
    Calls Try.prog 19 #[.int .i64 n, .int .i64 r] w (LPost w (atR n r)) := by
  by_cases hout : n < 0 ∨ 20 < n ∨ r < 0
  · have HA := Lib.hid (atR_out hout)
    rw [HA.out]
    clear HA
    by_cases h0 : n < 0
    · go_enter Try.func19, Try.ntmps19
      go_wp2
      go_ret2
      exact lpost_none (Below.refl _ _)
    · by_cases h20 : 20 < n
      · go_enter Try.func19, Try.ntmps19
        go_wp2
        go_ret2
        exact lpost_none (Below.refl _ _)
      · have hr0 : r < 0 := by omega
        go_enter Try.func19, Try.ntmps19
        go_wp2
        go_ret2
        exact lpost_none (Below.refl _ _)
  · obtain ⟨m, rfl⟩ : ∃ m : Nat, n = (m : Int) := ⟨n.toNat, by omega⟩
    obtain ⟨q, rfl⟩ : ∃ q : Nat, r = (q : Int) := ⟨r.toNat, by omega⟩
    have hm : m ≤ 20 := by omega
    clear hout
    have t1 : decide ((m : Int) < 0) = false := by rw [decide_eq_false_iff_not]; omega
    have t2 : decide ((20 : Int) < (m : Int)) = false := by rw [decide_eq_false_iff_not]; omega
    have t3 : decide (20 < m) = false := by rw [decide_eq_false_iff_not]; omega
    have t4 : decide ((q : Int) < 0) = false := by rw [decide_eq_false_iff_not]; omega
    have CF := Lib.hid (dfact_any m w hm)
    have hfb := fact_small hm
    by_cases hlt : q < fact m
    · rw [atR_some hm hlt]
      have hd := fd_dig m q
      have hl := fd_len m q
      have hrc : rc (fd m q).1 = q := by rw [fd_rc, Nat.mod_eq_of_lt hlt]
      generalize (fd m q).1 = cs at *
      have HD := Lib.hid hd
      have HL := Lib.hid hl
      have HRC := Lib.hid hrc
      have hlt2 : (q : Int) < ((fact m : Nat) : Int) := by omega
      generalize hfm : fact m = f at *
      have t5 : decide (((f : Nat) : Int) ≤ (q : Int)) = false := by rw [decide_eq_false_iff_not]; omega
      have t6 : decide (f ≤ q) = false := by rw [decide_eq_false_iff_not]; omega
      clear hd hl hrc hfm
      have hmm := @run_makeMap Try.prog
      have HS := Lib.hid (trel_start w m cs)
      go_enter Try.func19, Try.ntmps19
      go_wp2_with fail
      refine CF.out.mono ?_
      rintro e w1 ⟨rfl, rfl⟩
      clear CF
      go_wp2_with fail
      go_loopw [1, 6, 8] (fun rv ov kv wr => ∃ (v : Value) (i : Nat) (k : Int), v = ov ∧ i ≤ m ∧ k + 1 + (i : Int) = (m : Int) ∧ rv = .int .i64 (rc (cs.drop i) : Nat) ∧ kv = .int .i64 k ∧ TRel w1 m cs i v wr) (fun _ _ kv _ => (intOf kv + 1).toNat)
      case atStart => exact ⟨_, 0, (m : Int) - 1, rfl, by omega, by omega, by rw [List.drop_zero, HRC.out], by go_num, HS.out⟩
      case round =>
        clear HS
        obtain ⟨v, i, k, rfl, hi, hk, rfl, rfl, hR⟩ := hrel
        obtain ⟨hO, ⟨S, hM, hS⟩, hB⟩ := hR
        have HO := Lib.hid hO
        have HM := Lib.hid hM
        have HB := Lib.hid hB
        have HSS := Lib.hid hS
        clear hO hM hB hS
        by_cases h0 : 0 ≤ k
        · obtain ⟨j, rfl⟩ : ∃ j : Nat, k = (j : Int) := ⟨k.toNat, by omega⟩
          have hji : j + 1 + i = m := by omega
          have him : i < m := by omega
          have hic : i < cs.length := by rw [HL.out]; exact him
          obtain ⟨hp1, hp2⟩ := rc_parts HD.out hic
          rw [HL.out, show m - (i + 1) = j by omega] at hp1 hp2
          have CJ := Lib.hid (dfact_any j wr (by omega))
          have hfj := fact_small (show j ≤ 20 by omega)
          have hfp := fact_pos j
          have hrl : rc (cs.drop i) ≤ 2432902008176640000 := by
            have h1 := rc_lt (dig_drop i HD.out)
            rw [List.length_drop, HL.out] at h1
            have h2 := fact_small (show m - i ≤ 20 by omega)
            omega
          have hc : cs.getD i 0 < (left (idn m) cs i).length := by
            rw [left_len HD.out (by rw [idn_len, HL.out]) (by omega)]
            have := dig_at HD.out hic
            omega
          have ha := asc_left (cs := cs) i (asc_idn m)
          have htm : (left (idn m) cs i).getD (cs.getD i 0) 0 ∈ idn m := left_sub i _ (getD_mem hc)
          rw [mem_idn] at htm
          obtain ⟨t, ht⟩ : ∃ t : Nat, (left (idn m) cs i).getD (cs.getD i 0) 0 = (t : Int) := ⟨((left (idn m) cs i).getD (cs.getD i 0) 0).toNat, by omega⟩
          rw [ht] at htm
          have htn : t < m := by omega
          have hcl : cs.getD i 0 ≤ 20 := by have := dig_at HD.out hic; have := HL.out; omega
          have hself := cnt_self ha hc
          rw [ht] at hself
          have HSK := Lib.hid (fun (x s : Nat) (hs : s + cnt (x : Int) (left (idn m) cs i) = cs.getD i 0) (hx : x < t) => seek_step ha hc hs (by rw [ht]; omega))
          have HT := Lib.hid ht
          have HSELF := Lib.hid hself
          have HMEM : Hid ((t : Int) ∈ left (idn m) cs i) := by have := getD_mem hc; rw [ht] at this; exact this
          have HC0 : Hid (∀ u : List Int, (∀ y ∈ u, (0 : Int) ≤ y) → cnt 0 u = 0) := fun u hu => by
            show cnt 0 u = 0
            unfold cnt
            rw [List.countP_eq_zero]
            intro y hy; have := hu y hy; simp; omega
          have HZ : Hid (cs.getD i 0 + cnt ((0 : Nat) : Int) (left (idn m) cs i) = cs.getD i 0) := by
            show _ = _
            rw [show ((0 : Nat) : Int) = 0 from rfl, HC0.out _ (fun y hy => (mem_idn.1 (left_sub i y hy)).1), Nat.add_zero]
          have HCM : Hid (∀ x : Nat, x ≤ t → cnt (x : Int) (left (idn m) cs i) ≤ cs.getD i 0) := fun x hx => by
            show _ ≤ _
            rw [← HSELF.out]; exact cnt_mono (by omega)
          clear HC0 ha hc htm ht hself
          have e1 : ((rc (cs.drop i) : Nat) : Int).tdiv ((fact j : Nat) : Int) = ((cs.getD i 0 : Nat) : Int) := by rw [← hp1, Int.ofNat_tdiv]
          have e2 : ((rc (cs.drop i) : Nat) : Int).tmod ((fact j : Nat) : Int) = ((rc (cs.drop (i + 1)) : Nat) : Int) := by rw [← hp2, Int.ofNat_tmod]
          have hz : (((fact j : Nat) : Int) == 0) = false := eqz_no (by omega)
          have hr2 : rc (cs.drop (i + 1)) ≤ 2432902008176640000 := by rw [← hp2]; exact Nat.le_trans (Nat.mod_le _ _) hrl
          generalize rc (cs.drop i) = rr at *
          generalize hr3 : rc (cs.drop (i + 1)) = r3 at *
          have HR3 := Lib.hid hr3
          generalize hcc : cs.getD i 0 = c at *
          have HCC := Lib.hid hcc
          generalize hfj2 : fact j = fj at *
          clear hp1 hp2 hr3 hcc hfj2
          go_wp2_with fail
          refine CJ.out.mono ?_
          rintro e w3 ⟨rfl, rfl⟩
          go_wp2_with fail
          refine CJ.out.mono ?_
          rintro e w4 ⟨rfl, rfl⟩
          clear CJ
          obtain ⟨wa, hwa⟩ : ∃ wa, wa = w4 := ⟨_, rfl⟩
          subst hwa
          go_wp2_with fail
          go_loopw [9, 10] (fun sv xv wq => ∃ s x : Nat, x ≤ t ∧ s ≤ 20 ∧ s + cnt (x : Int) (left (idn m) cs i) = c ∧ sv = .int .i64 s ∧ xv = .int .i64 x ∧ wq = wa) (fun _ xv _ => t - (intOf xv).toNat)
          case atStart => exact ⟨c, 0, by omega, by omega, HZ.out, rfl, rfl, rfl⟩
          case round =>
            clear HZ
            obtain ⟨s, x, hx, hs20, hs, rfl, rfl, rfl⟩ := hrel
            have HLK := HM.out.look (x := (x : Int)) (wf_small (by omega))
            rw [HSS.out x (by omega)] at HLK
            by_cases hxt : x < t
            · have hst := HSK.out x s hs hxt
              have HHS := Lib.hid hst
              clear hst hs
              by_cases hmem : (x : Int) ∈ left (idn m) cs i
              · rw [decide_eq_false (by simpa using hmem)] at HLK
                obtain ⟨h1, h2⟩ := HHS.out.1 hmem
                have H2 := Lib.hid h2
                clear h2 HHS hmem
                go_wp2
                go_roundw
                case rel => exact ⟨s - 1, x + 1, by omega, by omega, H2.out, by go_num, by go_num, trivial⟩
                case measure => simp [intOf]; omega
              · rw [decide_eq_true hmem] at HLK
                have h2 := HHS.out.2 hmem
                have H2 := Lib.hid h2
                clear h2 HHS hmem
                go_wp2
                go_roundw
                case rel => exact ⟨s, x + 1, by omega, by omega, H2.out, by go_num, by go_num, trivial⟩
                case measure => simp [intOf]; omega
            · obtain rfl : x = t := by omega
              rw [HSELF.out] at hs
              obtain rfl : s = 0 := by omega
              rw [decide_eq_false (by simpa using HMEM.out)] at HLK
              clear HSELF HSK HCM HMEM hs
              go_wp2_with (at_mapUpdate; refine wpList_setM rfl _ _ _ rfl w1.heap.size i S (x : Int) rfl rfl rfl (wf_small (by omega)) HM.out (by omega) ?_)
              intro w5 hM5 hg5
              have hO5 := HO.out.kept hg5 (HO.out.ge (by omega))
              have hB5 := below_grown HB.out hg5 HB.out.size (Nat.le_refl _)
              have hs5 : w1.heap.size + 1 ≤ w5.heap.size := Nat.lt_of_lt_of_le HM.out.lt hg5.size
              have hov := HO.out.ge (show w1.heap.size < w1.heap.size + 1 by omega)
              have hil : ((pick (idn m) cs).take i).length = i := by rw [List.length_take, pick_len, HL.out]; omega
              have HM5 := Lib.hid hM5
              have HO5 := Lib.hid hO5
              have HB5 := Lib.hid hB5
              have HOV := Lib.hid hov
              clear hM5 hO5 hB5 hg5 HO HM HB hov HLK
              go_wp2_with (at_builtin; refine wpList_push2 rfl _ _ rfl (w1.heap.size + 1) w1.heap.size v _ (x : Int) rfl HO5.out rfl (by rw [hil]; omega) hs5 (by omega) HB5.out ?_)
              intro g cap w6 hO6 hB6 hg6
              try rw [hil] at hO6
              have hT := trel_step HD.out HL.out him (by rw [HCC.out]; exact HT.out) HSS.out HM5.out hO6 hg6 HOV.out hB6
              have HTR := Lib.hid hT
              clear hO6 hB6 hg6 hT HM5 HO5 HB5
              try rw [hil]
              clear hil
              go_wp2
              go_roundw
              case rel => exact ⟨_, i + 1, (j : Int) - 1, rfl, by omega, by omega, by rw [HR3.out], by go_num, HTR.out⟩
              case measure => simp [intOf]
        · obtain rfl : k = -1 := by omega
          obtain rfl : i = m := by omega
          have hO := HO.out
          rw [List.take_of_length_le (by rw [pick_len, HL.out]; exact Nat.le_refl _)] at hO
          obtain ⟨R, cr, rfl, hI⟩ := hO.ip
          have HI := Lib.hid hI
          clear hO hI HO HM HSS
          go_wp2
          go_ret2
          exact ⟨R, cr, rfl, HI.out, HB.out⟩
    · rw [atR_none hm (by omega)]
      generalize fact m = f at *
      have t5 : decide (((f : Nat) : Int) ≤ (q : Int)) = true := by rw [decide_eq_true_eq]; omega
      go_enter Try.func19, Try.ntmps19
      go_wp2_with fail
      refine CF.out.mono ?_
      rintro e w1 ⟨rfl, rfl⟩
      clear CF
      go_wp2
      go_ret2
      exact lpost_none (Below.refl _ _)
end Go.Proofs.Ytbchdnmpohnkiaa
