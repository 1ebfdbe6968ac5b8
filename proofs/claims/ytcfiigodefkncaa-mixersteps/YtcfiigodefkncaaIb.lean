import Derived.Test.YtcfiigodefkncaaIa
/- lotdrawerref.shiftRight. -/
namespace Go.Proofs.Ytcfiigodefkncaa
open Go.RowKit Go.Deep

/-- A digit of what is moved to the right: the upper part of one, the lower part of the next. -/
def srD (r a y : Nat) : Nat := a / 2 ^ r + y % 2 ^ r * 2 ^ (32 - r)
theorem srD_eq {r a y : Nat} (hr : r ≤ 32) : srD r a y * 2 ^ r + a % 2 ^ r = a + 4294967296 * (y % 2 ^ r) := by
  have hB : 2 ^ (32 - r) * 2 ^ r = 4294967296 := by rw [← Nat.pow_add, show 32 - r + r = 32 by omega]
  unfold srD
  have h := Nat.div_add_mod a (2 ^ r)
  rw [Nat.add_mul, Nat.mul_assoc (y % 2 ^ r), hB, Nat.mul_comm (a / 2 ^ r), Nat.mul_comm 4294967296]
  omega
theorem srD_lt {r a y : Nat} (hr : r ≤ 32) (ha : a < 4294967296) : srD r a y < 4294967296 := by
  have hB : 2 ^ (32 - r) * 2 ^ r = 4294967296 := by rw [← Nat.pow_add, show 32 - r + r = 32 by omega]
  have hp : 0 < 2 ^ r := Nat.two_pow_pos r
  have e := srD_eq (a := a) (y := y) hr
  have h1 := Nat.mod_lt y hp
  have h3 : 4294967296 * (y % 2 ^ r + 1) ≤ 4294967296 * 2 ^ r := Nat.mul_le_mul_left _ h1
  have h4 : srD r a y * 2 ^ r < 4294967296 * 2 ^ r := by rw [Nat.mul_add] at h3; omega
  exact Nat.lt_of_mul_lt_mul_right h4
theorem srD_zero (a y : Nat) : srD 0 a y = a := by unfold srD; simp [Nat.mod_one]
theorem srD_last (r a : Nat) : srD r a 0 = a / 2 ^ r := by unfold srD; simp

/-- What stands in the loop of shiftRight. -/
theorem sr_step {r k d a y : Nat} {ys ds : List Nat} (hk : ds.length = k) (h : H.val ds * 2 ^ r + H.wd ys 0 % 2 ^ r = H.val (ys.take k) + H.Bw ^ k * (H.wd ys k % 2 ^ r)) (ha : a = H.wd ys k) (hy : y = H.wd ys (k + 1))
    (hd : d * 2 ^ r + a % 2 ^ r = a + 4294967296 * (y % 2 ^ r)) : H.val (ds ++ [d]) * 2 ^ r + H.wd ys 0 % 2 ^ r = H.val (ys.take (k + 1)) + H.Bw ^ (k + 1) * (H.wd ys (k + 1) % 2 ^ r) := by
  subst ha hy
  rw [H.val_append, hk, H.val_take_any]
  simp only [H.val, Nat.mul_zero, Nat.add_zero]
  rw [Nat.add_mul, Nat.pow_succ, Nat.mul_assoc (H.Bw ^ k) d, Nat.mul_assoc (H.Bw ^ k) H.Bw]
  have e : H.Bw ^ k * (d * 2 ^ r) + H.Bw ^ k * (H.wd ys k % 2 ^ r) = H.Bw ^ k * H.wd ys k + H.Bw ^ k * (H.Bw * (H.wd ys (k + 1) % 2 ^ r)) := by
    rw [← Nat.mul_add, ← Nat.mul_add, hd]; rfl
  omega
theorem sr_done {r : Nat} {ys ds : List Nat} (h : H.val ds * 2 ^ r + H.wd ys 0 % 2 ^ r = H.val (ys.take ys.length) + H.Bw ^ ys.length * (H.wd ys ys.length % 2 ^ r)) : H.val ds = H.val ys / 2 ^ r := by
  rw [H.wd_out (Nat.le_refl _), Nat.zero_mod, Nat.mul_zero, Nat.add_zero, List.take_of_length_le (Nat.le_refl _)] at h
  rw [← h, Nat.add_comm, Nat.add_mul_div_right _ _ (Nat.two_pow_pos r), Nat.div_eq_of_lt (Nat.mod_lt _ (Nat.two_pow_pos r)), Nat.zero_add]
theorem val_drop_div {xs : List Nat} (hs : H.Sm xs) {q : Nat} (hq : q ≤ xs.length) : H.val (xs.drop q) = H.val xs / H.Bw ^ q := by
  have e := H.val_split (xs := xs) hq
  have h := H.val_lt (hs.take q)
  rw [List.length_take, Nat.min_eq_left hq] at h
  rw [e, Nat.add_mul_div_left _ _ (Nat.pow_pos H.Bw_pos), Nat.div_eq_of_lt h, Nat.zero_add]

/-- The part of a row from place q on. -/
theorem Wd_drop {w : World} {b off : Nat} {xs : List Nat} (h : H.Wd w (some ⟨b, off, none⟩) xs) (q : Nat) : H.Wd w (some ⟨b, off + q, none⟩) (xs.drop q) :=
  ⟨fun x hx => h.1 x (List.mem_of_mem_drop hx), fun h0 => by
    have hl : q < xs.length := by simp at h0; omega
    obtain ⟨b', off', e, hlt, hc⟩ := h.2 (by omega)
    simp at e
    obtain ⟨rfl, rfl⟩ := e
    refine ⟨b, off + q, rfl, hlt, fun j hj => ?_⟩
    simp at hj
    rw [H.wd_drop, Nat.add_assoc]
    exact hc (q + j) (by omega)⟩

theorem pow_cast (r : Nat) : ((2 : Int) ^ r) = ((2 ^ r : Nat) : Int) := by simp
theorem div_cast (a r : Nat) : (a : Int) / 2 ^ r = ((a / 2 ^ r : Nat) : Int) := by rw [pow_cast, ← Int.natCast_ediv]
theorem sr_or {a y r : Nat} (ha : a < 4294967296) (hr : r < 32) : bits .or .u32 ((a : Int) / 2 ^ r) ((y : Int) * 2 ^ (32 - r) % 4294967296) = ((srD r a y : Nat) : Int) := by
  have hB : 2 ^ r * 2 ^ (32 - r) = 4294967296 := by rw [← Nat.pow_add, show r + (32 - r) = 32 by omega]
  have hp : 0 < 2 ^ (32 - r) := Nat.two_pow_pos _
  have h1 : (y : Int) * 2 ^ (32 - r) % 4294967296 = ((y % 2 ^ r * 2 ^ (32 - r) : Nat) : Int) := by
    rw [pow_cast, castM, show (4294967296 : Int) = ((4294967296 : Nat) : Int) from rfl, ← Int.natCast_emod]
    congr 1
    rw [← hB, Nat.mul_mod_mul_right]
  have h2 : y % 2 ^ r * 2 ^ (32 - r) < 4294967296 := by
    rw [← hB]; exact Nat.mul_lt_mul_of_pos_right (Nat.mod_lt _ (Nat.two_pow_pos r)) hp
  have h3 : a / 2 ^ r < 2 ^ (32 - r) := Nat.div_lt_of_lt_mul (by rw [hB]; exact ha)
  rw [div_cast, h1, or32 (r := 32 - r) (m := y % 2 ^ r) h3 (Nat.mul_comm _ _) h2 (Nat.lt_of_le_of_lt (Nat.div_le_self _ _) ha)]
  rfl
theorem Fill.twice {w wr : World} {n k : Nat} {ds : List Nat} (h : Fill w n k ds wr) (hk : k < n) {x y : Nat} {u v : Int} (hy : y < H.Bw) (hu : u = (x : Int)) (hv : v = (y : Int)) :
    Fill w n (k + 1) (ds ++ [y]) ((wr.setCell ⟨w.heap.size, k, none⟩ (.int .u32 u)).setCell ⟨w.heap.size, k, none⟩ (.int .u32 v)).drew := by
  obtain ⟨h1, h2, h3, h4⟩ := h
  subst hu hv
  refine ⟨by simp [h1], h2.append (H.Sm.one hy), ?_, ((h4.setCell (Nat.le_refl _) _).setCell (Nat.le_refl _) _).drew⟩
  have := (h3.set k x).set k y
  rw [List.set_set, H.set_next h1 hk] at this
  exact this

set_option maxRecDepth 100000 in
set_option maxHeartbeats 2000000 in
theorem shiftRight_core (b off ca n q r m : Nat) (ys : List Nat) (w : World) (ha : H.Wd w (some ⟨b, off + q, none⟩) ys) (hx : q + m ≤ 900000) (hca : q + m ≤ ca) (hn : Hid (n = 32 * q + r)) (hr : r < 32) (hm : 0 < m) (hys : Hid (ys.length = m)) :
    Calls Try.prog 37 #[.slice (some ⟨b, off, none⟩) (q + m) ca, .int .i64 (n : Int)] w fun e w' => ∃ R c zs, e = .returned (.slice R zs.length c) ∧ H.Wd w' R zs ∧ zs.length ≤ 900000 ∧ zs.length ≤ c ∧ H.val zs = H.val ys / 2 ^ r ∧ Below w.heap.size w w' := by
  have hnq : (n : Int) / 32 = (q : Int) := by have := hn.out; omega
  have hnr : (n : Int) % 32 = (r : Int) := by have := hn.out; omega
  have hmk := run_make_row' (P := Try.prog) 51 63 (.int .u32 0) 4 Try.underlying51 Try.info63 rfl .i64 .i64 m (by omega) (by omega)
  have hcq : ca ≠ q := by omega
  have HA := Lib.hid ha
  clear ha
  go_enter Try.func37, Try.ntmps37
  go_wp2
  go_loopw [22] (fun i wr => ∃ (k : Nat) (ds : List Nat), k ≤ m ∧ i = .int .i64 k ∧ H.val ds * 2 ^ r + H.wd ys 0 % 2 ^ r = H.val (ys.take k) + H.Bw ^ k * (H.wd ys k % 2 ^ r) ∧ Fill w m k ds wr) (fun i _ => m - (intOf i).toNat)
  case atStart => exact ⟨0, [], Nat.zero_le _, rfl, by simp [H.val], Fill.start w _⟩
  case round =>
    clear hmk
    obtain ⟨k, ds, hk, rfl, hV, hF⟩ := hrel
    have HV := Lib.hid hV
    have HF := Lib.hid hF
    clear hV hF
    by_cases hlt : k < m
    · obtain ⟨f1, f2⟩ := HF.out.free hlt
      have hbel := HF.out.2.2.2
      obtain ⟨b', o', e, _, hc⟩ := (HA.out.below hbel).2 (by have := hys.out; omega)
      simp at e
      obtain ⟨rfl, rfl⟩ := e
      have e1 := hc k (by have := hys.out; omega)
      have ba : H.wd ys k < 4294967296 := H.wd_lt HA.out.1 k
      by_cases hk1 : k + 1 < m
      · have e2 := hc (k + 1) (by have := hys.out; omega)
        have by1 : H.wd ys (k + 1) < 4294967296 := H.wd_lt HA.out.1 (k + 1)
        by_cases hr0 : 0 < r
        · have hblt : b < w.heap.size := by
            obtain ⟨b', o', e, h, _⟩ := HA.out.2 (by have := hys.out; omega)
            simp at e; rw [e.1]; exact h.1
          have e3 : (wr.setCell ⟨w.heap.size, k, none⟩ (.int .u32 ((H.wd ys k : Int) / 2 ^ r))).cell? ⟨b, off + q + (k + 1), none⟩ = some (.int .u32 (H.wd ys (k + 1) : Int)) := by
            rw [World.cell?_setCell_other _ _ _ _ (by intro e; injection e; omega)]; exact e2
          have hwr : IntKind.i64.wrap ((k : Int) + 1) = (k : Int) + 1 := by rw [IntKind.wrap_i64]; omega
          clear hc hbel
          have ik : (k : Int) + 1 < (m : Int) := by omega
          go_wp2
          go_region
          go_wp2_with fail
          go_roundw
          case rel => exact ⟨k + 1, ds ++ [srD r (H.wd ys k) (H.wd ys (k + 1))], by omega, by go_num, sr_step HF.out.1 HV.out rfl rfl (srD_eq (by omega)), HF.out.twice hlt (by unfold H.Bw; exact srD_lt (by omega) ba) (div_cast _ _) (sr_or ba hr)⟩
          case measure => simp [intOf]; omega
        · obtain rfl : r = 0 := by omega
          have hik : (k : Int) + 1 < (m : Int) := by omega
          clear hc hbel e2
          go_wp2_with fail
          go_roundw
          case rel => exact ⟨k + 1, ds ++ [H.wd ys k], by omega, by go_num, sr_step HF.out.1 HV.out rfl rfl (by simp [Nat.mod_one]), HF.out.next hlt (by unfold H.Bw; exact ba) rfl⟩
          case measure => simp [intOf]; omega
      · clear hc hbel
        have hz : H.wd ys (k + 1) = 0 := H.wd_out (by have := hys.out; omega)
        have HZ := Lib.hid hz
        clear hz
        go_wp2_with fail
        go_roundw
        case rel => exact ⟨k + 1, ds ++ [H.wd ys k / 2 ^ r], by omega, by go_num, sr_step HF.out.1 HV.out rfl rfl (by rw [HZ.out, Nat.zero_mod, Nat.mul_zero, Nat.add_zero, Nat.mul_comm]; exact Nat.div_add_mod _ _), HF.out.next hlt (by unfold H.Bw; exact Nat.lt_of_le_of_lt (Nat.div_le_self _ _) ba) (div_cast _ _)⟩
        case measure => simp [intOf]; omega
    · obtain rfl : m = k := by omega
      have hD := HF.out.done
      have hv : H.val ds = H.val ys / 2 ^ r := sr_done (by rw [hys.out]; exact HV.out)
      have HD := Lib.hid hD
      have HVV := Lib.hid hv
      have HL := Lib.hid HF.out.1
      clear hD hv
      go_wp2
      go_ret
      exact ⟨some ⟨w.heap.size, 0, none⟩, m, ds, by rw [HL.out]; rfl, HD.out.1, by rw [HL.out]; omega, by rw [HL.out]; exact Nat.le_refl _, HVV.out, HD.out.2⟩

set_option maxHeartbeats 400000 in
theorem shiftRight_none (A : Option Addr) (ca n q r : Nat) (len : Nat) (w : World) (hn : Hid (n = 32 * q + r)) (hr : r < 32) (hq : len ≤ q) (hqq : q ≤ 900000) :
    Calls Try.prog 37 #[.slice A len ca, .int .i64 (n : Int)] w fun e w' => e = .returned (.slice none 0 0) ∧ w = w' := by
  have hnq : (n : Int) / 32 = (q : Int) := by have := hn.out; omega
  go_enter Try.func37, Try.ntmps37
  go_wp2
  go_ret
  exact ⟨rfl, rfl⟩

theorem shiftRight_any (A : Option Addr) (ca n : Nat) (xs : List Nat) (w : World) (ha : H.Wd w A xs) (hx : xs.length ≤ 900000) (hca : xs.length ≤ ca) (hn : n ≤ 10000000) :
    Calls Try.prog 37 #[.slice A xs.length ca, .int .i64 (n : Int)] w fun e w' => ∃ R c zs, e = .returned (.slice R zs.length c) ∧ H.Wd w' R zs ∧ zs.length ≤ 900000 ∧ zs.length ≤ c ∧ H.val zs = H.val xs / 2 ^ n ∧ Below w.heap.size w w' := by
  have hdm := Nat.div_add_mod n 32
  have hr := Nat.mod_lt n (y := 32) (by omega)
  have hpow : (2 : Nat) ^ n = H.Bw ^ (n / 32) * 2 ^ (n % 32) := by
    rw [show H.Bw = 2 ^ 32 from rfl, ← Nat.pow_mul, ← Nat.pow_add, hdm]
  by_cases hq : n / 32 < xs.length
  · obtain ⟨b, off, rfl, _, _⟩ := ha.2 (by omega)
    have C := shiftRight_core b off ca n (n / 32) (n % 32) (xs.length - n / 32) (xs.drop (n / 32)) w (Wd_drop ha _) (by omega) (by omega) hdm.symm hr (by omega) (by show (xs.drop (n / 32)).length = _; simp)
    rw [show n / 32 + (xs.length - n / 32) = xs.length by omega] at C
    refine C.mono ?_
    rintro e w' ⟨R, c, zs, rfl, h1, h2, h3, h4, h5⟩
    refine ⟨R, c, zs, rfl, h1, h2, h3, ?_, h5⟩
    rw [h4, val_drop_div ha.1 (by omega), hpow, Nat.div_div_eq_div_mul]
  · refine (shiftRight_none A ca n (n / 32) (n % 32) xs.length w hdm.symm hr (by omega) (by omega)).mono ?_
    rintro e w' ⟨rfl, rfl⟩
    refine ⟨none, 0, [], rfl, H.Wd.nil, by simp, by simp, ?_, Below.refl _ _⟩
    have h1 := H.val_lt ha.1
    have h2 : H.Bw ^ xs.length ≤ H.Bw ^ (n / 32) := Nat.pow_le_pow_right H.Bw_pos (by omega)
    have h3 : H.Bw ^ (n / 32) * 1 ≤ H.Bw ^ (n / 32) * 2 ^ (n % 32) := Nat.mul_le_mul_left _ (Nat.two_pow_pos _)
    rw [Nat.div_eq_of_lt (by rw [hpow]; omega)]
    rfl

set_option maxHeartbeats 1000000 in
theorem irsh_core (g bx n : Nat) (A Z : Option Addr) (ca nz cz : Nat) (zn : Bool) (xs : List Nat) (w : World)
    (x0 : w.cell? ⟨bx, 0, none⟩ = some (.bool false)) (x1 : w.cell? ⟨bx, 1, none⟩ = some (.slice A xs.length ca))
    (hz : Hd w g zn Z nz cz) (ha : H.Wd w A xs) (hx : xs.length ≤ 900000) (hca : xs.length ≤ ca) (hn : n ≤ 10000000) :
    Calls Try.prog 29 #[.pointer (some ⟨g, 0, none⟩), .pointer (some ⟨bx, 0, none⟩), .int .u64 (n : Int)] w fun e w' => e = .returned (.pointer (some ⟨g, 0, none⟩)) ∧ IsI w' g ((H.val xs / 2 ^ n : Nat) : Int) ∧ w.grownBy w' (some g) := by
  have C := Lib.hid (shiftRight_any A ca n xs w ha hx hca hn)
  have HZ := Lib.hid hz
  clear hz ha
  go_enter Try.func29, Try.ntmps29
  go_wp2_with fail
  refine C.out.mono ?_
  rintro e w1 ⟨R, c, zs, rfl, hW, hl, hc, hv, hB1⟩
  have z0 := (HZ.out.below hB1).cell0
  have z1 := (HZ.out.below hB1).cell1
  have f0 := (HZ.out.below hB1).frozen 0
  have f1 := (HZ.out.below hB1).frozen 1
  have T := stored_trim (n := false) (c := c) HZ.out hB1 hW (by omega) hc
  rw [hv] at T
  have HT := Lib.hid T
  clear hW hv hB1 T x0 x1
  go_wp2_with fail
  refine HT.out.mono ?_
  rintro e w2 ⟨rfl, h1, h2⟩
  have H1 := Lib.hid h1
  have H2 := Lib.hid h2
  clear h1 h2
  go_wp2
  go_ret
  exact ⟨rfl, H1.out, H2.out⟩
/-- Rsh: through a power of 2, of a number that is not below 0. -/
theorem irsh_any (g bx n X : Nat) (w : World) (hg : IsH w g) (hx : IsI w bx (X : Int)) (sx : X < Bh ^ 900000) (hn : n ≤ 10000000) :
    Calls Try.prog 29 #[.pointer (some ⟨g, 0, none⟩), .pointer (some ⟨bx, 0, none⟩), .int .u64 (n : Int)] w fun e w' => e = .returned (.pointer (some ⟨g, 0, none⟩)) ∧ IsI w' g ((X / 2 ^ n : Nat) : Int) ∧ w.grownBy w' (some g) := by
  obtain ⟨zn, Z, nz, cz, hz⟩ := hg
  obtain ⟨A, ca, x0, x1, x2, x3⟩ := hx.open_
  rw [show decide ((X : Int) < 0) = false from by simp] at x0
  have := irsh_core g bx n A Z ca nz cz zn _ w x0 x1 hz x2 (digits_le (by simpa using sx)) x3 hn
  rwa [H.val_words, Int.natAbs_natCast] at this
end Go.Proofs.Ytcfiigodefkncaa
