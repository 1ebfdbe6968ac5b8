/- A function of integers kept as a map[int]int of the call's own; what has been handed on in a range over it. -/
import Derived.Test.YtojoecoocbjgaaaTe
import Derived.Test.YtojoecoocbjgaaaBb
import Derived.Test.YtojoecoocbjgaaaWk2
import Derived.Maps.OwnOps
import Derived.Maps.OwnSet
import Derived.Maps.RangeWalk
namespace Go.Proofs.Ytojoecoocbjgaaa
open Go.RowKit Go.Maps

theorem lawQ : Keyed Try.prog 3 := int_keyed Try.underlying3
theorem info_intQ : ∃ i, Try.prog.info? 3 = some i ∧ i.zero = some (.int .i64 0) := by
  refine ⟨_, rfl, ?_⟩
  kernel_rfl
theorem zeroQ (w : World) : (zeroValue 3).run Try.prog w = .ok (.int .i64 0) w := Try.zeroValue3 w
def wfi (x : Int) : Prop := (Lit.int .i64 x).wf = true
theorem wfi_of {x : Int} (h : -9223372036854775808 ≤ x ∧ x ≤ 9223372036854775807) : wfi x := Go.WalkArith.wf_i64 h
theorem keyQ {x : Int} (h : wfi x) : keyOf Try.prog 3 (.int .i64 x) = some (.int .i64 x) := keyOf_int_mk Try.underlying3 h
structure FnD (D : DataW Unit) (lo hi : Int) (F : Int → Int) : Prop where
  look : ∀ x : Int, wfi x → D.atKey (.int .i64 x) (.lit (.int .i64 0)) = .lit (.int .i64 (F x))
  keys : ∀ x : Int, has D (.int .i64 x) = true → lo ≤ x ∧ x ≤ hi
theorem FnD.made (lo hi : Int) : FnD (.map []) lo hi (fun _ => 0) := ⟨fun _ _ => rfl, fun x h => by simp [has_eq] at h⟩
theorem FnD.congr {D : DataW Unit} {lo hi : Int} {F G : Int → Int} (h : FnD D lo hi F) (e : ∀ x, wfi x → F x = G x) : FnD D lo hi G := ⟨fun x hx => by rw [h.look x hx, e x hx], h.keys⟩
def put1 (F : Int → Int) (y c : Int) : Int → Int := fun x => if x = y then c else F x
theorem FnD.put {D : DataW Unit} {lo hi : Int} {F : Int → Int} (h : FnD D lo hi F) (hD : IsMap D) {y c : Int} (hy : wfi y) (h1 : lo ≤ y ∧ y ≤ hi) : FnD (D.put (.int .i64 y) (.lit (.int .i64 c))) lo hi (put1 F y c) := by
  have hne : ∀ x : Int, x ≠ y → (Lit.int .i64 x) ≠ .int .i64 y := fun x hx e => hx (by injection e)
  refine ⟨fun x hx => ?_, fun x hh => ?_⟩
  · unfold put1
    by_cases e : x = y
    · subst e
      rw [atKey_put_same hD (lawQ.key (keyQ hy)), if_pos rfl]
    · rw [atKey_put_other (hne x e), h.look x hx, if_neg e]
  · by_cases e : x = y
    · rw [e]; exact h1
    · rw [has_put_other (hne x e)] at hh
      exact h.keys x hh
/-- Block b is a map that says F, and has keys between lo and hi alone. -/
def FnM (w : World) (b n : Nat) (lo hi : Int) (F : Int → Int) : Prop := ∃ D : DataW Unit, w.ownsMap Try.prog 3 (plainElem Try.prog 3) b n D ∧ FnD D lo hi F
theorem FnM.made (w : World) (lo hi : Int) : FnM (w.alloc (.map #[] 0)) w.heap.size 0 lo hi (fun _ => 0) := ⟨_, World.ownsMap_made w Try.prog 3 _, FnD.made lo hi⟩
theorem FnM.of_block {w w' : World} {b n : Nat} {lo hi : Int} {F : Int → Int} (h : FnM w b n lo hi F) (hb : w'.heap[b]? = w.heap[b]?) : FnM w' b n lo hi F := by
  obtain ⟨D, ⟨es, clock, h1, h2⟩, hc⟩ := h
  exact ⟨D, ⟨es, clock, hb.trans h1, h2⟩, hc⟩
theorem FnM.lt {w : World} {b n : Nat} {lo hi : Int} {F : Int → Int} (h : FnM w b n lo hi F) : b < w.heap.size := by
  obtain ⟨D, hD, _⟩ := h
  exact hD.lt
theorem FnM.later {w w' : World} {b n : Nat} {lo hi : Int} {F : Int → Int} (h : FnM w b n lo hi F) (hb : Below w.heap.size w w') : FnM w' b n lo hi F := h.of_block (hb.block b h.lt)
theorem FnM.kept {w w' : World} {row : Option Nat} {b n : Nat} {lo hi : Int} {F : Int → Int} (h : FnM w b n lo hi F) (hg : w.grownBy w' row) (hr : some b ≠ row) : FnM w' b n lo hi F := h.of_block (hg.block b h.lt hr)
theorem FnM.congr {w : World} {b n : Nat} {lo hi : Int} {F G : Int → Int} (h : FnM w b n lo hi F) (e : ∀ x, wfi x → F x = G x) : FnM w b n lo hi G := by
  obtain ⟨D, h1, h2⟩ := h
  exact ⟨D, h1, h2.congr e⟩
theorem FnM.mono {w : World} {b n m : Nat} {lo hi : Int} {F : Int → Int} (h : FnM w b n lo hi F) (hn : n ≤ m) : FnM w b m lo hi F := by
  obtain ⟨D, h1, h2⟩ := h
  exact ⟨D, h1.mono hn, h2⟩
/-- 'm[x]'. -/
theorem wpList_fnLook {w : World} {ops : Array Oper} {rest : List Oper} {o : Oper} {a : Act} {Q : Exit → Act → World → Prop} (hg : o.guard = none) (m x : Operand) (hop : o.op = Op.lookup 32 m x false)
    (b n : Nat) (lo hi : Int) (F : Int → Int) (y : Int) (hm : a.eval m = .map (some b)) (hx : a.eval x = .int .i64 y) (hy : wfi y) (hown : FnM w b n lo hi F) (c0 : Int) (hc0 : F y = c0)
    (hK : wpList Try.prog ops Q rest (a.put o.dst (.int .i64 c0)) w) : wpList Try.prog ops Q (o :: rest) a w := by
  obtain ⟨D, hD, hC⟩ := hown
  refine wpList_lookup_own_int w hg m x 32 hop 3 3 .i64 lawQ Try.underlying32 Try.underlying3 (zeroQ w) b _ D hm hD _ _ hx (keyQ hy) ?_
  intro c hat _
  rw [hC.look y hy] at hat
  injection hat with hat
  injection hat with _ hat
  rw [← hat, hc0]
  exact hK
/-- 'm[x] = c'. -/
theorem wpList_fnPut {w : World} {ops : Array Oper} {rest : List Oper} {o : Oper} {a : Act} {Q : Exit → Act → World → Prop} (hg : o.guard = none) (m x v : Operand) (hop : o.op = Op.mapUpdate 32 m x v)
    (b n : Nat) (lo hi : Int) (F : Int → Int) (y c : Int) (hm : a.eval m = .map (some b)) (hx : a.eval x = .int .i64 y) (hv : a.eval v = .int .i64 c) (hy : wfi y) (hc : wfi c) (h1 : lo ≤ y ∧ y ≤ hi) (hown : FnM w b n lo hi F) (hn : n < 1000000000000000000)
    (hK : ∀ w', FnM w' b (n + 1) lo hi (put1 F y c) → w.grownBy w' (some b) → wpList Try.prog ops Q rest (a.put o.dst undef) w') : wpList Try.prog ops Q (o :: rest) a w := by
  obtain ⟨D, hD, hC⟩ := hown
  refine wpList_mapUpdate_own w hg m x v 32 hop 3 3 lawQ Try.underlying32 _ b _ D hm hD (by unfold maxLen; omega) _ _ _ hx hv (keyQ hy) _ [] (plainElem_int Try.underlying3 hc) ?_
  intro w' hw' hgr
  exact hK w' ⟨_, hw', hC.put hD.isMap hy h1⟩ hgr

/-! what has been handed on -/
def dnF (left : Lit → Bool) (F : Int → Int) (k : Int) : Int := if left (.int .i64 k) = true then 0 else F k
def nxF (may : Int → Bool) (left : Lit → Bool) (F : Int → Int) (g : Int) : Int := if may g = true then dnF left F (g - 1) + dnF left F (g + 1) else 0
theorem dnF_start {D : DataW Unit} {lo hi : Int} {F : Int → Int} (h : FnD D lo hi F) (hz : ∀ k, ¬ wfi k → F k = 0) (k : Int) : dnF (has D) F k = 0 := by
  unfold dnF
  by_cases e : has D (.int .i64 k) = true
  · rw [if_pos e]
  · rw [if_neg e]
    by_cases hw : wfi k
    · have := h.look k hw
      rw [atKey_of_not_has (by simpa using e)] at this
      injection this with this
      injection this with _ this
      exact this.symm
    · exact hz k hw
theorem nxF_start {D : DataW Unit} {lo hi : Int} {F : Int → Int} (h : FnD D lo hi F) (hz : ∀ k, ¬ wfi k → F k = 0) (may : Int → Bool) (g : Int) : nxF may (has D) F g = 0 := by
  unfold nxF
  rw [dnF_start h hz, dnF_start h hz]
  split <;> rfl
theorem nxF_end {left : Lit → Bool} (hl : ∀ kl, left kl = false) (may : Int → Bool) (F : Int → Int) (g : Int) : nxF may left F g = if may g = true then F (g - 1) + F (g + 1) else 0 := by
  have e : ∀ k, dnF left F k = F k := fun k => by unfold dnF; rw [if_neg (by rw [hl]; decide)]
  unfold nxF
  rw [e, e]
theorem dnF_step {left : Lit → Bool} {x : Int} (hx : wfi x) (hl : left (.int .i64 x) = true) (F : Int → Int) (k : Int) : dnF (fun z => left z && !z.sameKey (.int .i64 x)) F k = dnF left F k + if k = x then F x else 0 := by
  unfold dnF
  by_cases e : k = x
  · subst e
    have h2 : (Lit.int .i64 k).sameKey (.int .i64 k) = true := WideAt.sameKey_self (lawQ.key (keyQ hx))
    simp [hl, h2]
  · have h2 : (Lit.int .i64 k).sameKey (.int .i64 x) = false := sameKey_ne (fun h => e (by injection h))
    simp [h2, e]
/-- The next map behind one entry more. -/
theorem nxF_step {left : Lit → Bool} {x : Int} (hx : wfi x) (hl : left (.int .i64 x) = true) (may : Int → Bool) (F : Int → Int) (g : Int) :
    nxF may (fun z => left z && !z.sameKey (.int .i64 x)) F g = nxF may left F g + (if may g = true ∧ (g = x - 1 ∨ g = x + 1) then F x else 0) := by
  unfold nxF
  rw [dnF_step hx hl, dnF_step hx hl]
  by_cases hm : may g = true
  · rw [if_pos hm, if_pos hm]
    by_cases h1 : g = x - 1
    · rw [if_neg (show ¬ g - 1 = x by omega), if_pos (show g + 1 = x by omega), if_pos ⟨hm, .inl h1⟩]; omega
    · by_cases h2 : g = x + 1
      · rw [if_pos (show g - 1 = x by omega), if_neg (show ¬ g + 1 = x by omega), if_pos ⟨hm, .inr h2⟩]; omega
      · rw [if_neg (show ¬ g - 1 = x by omega), if_neg (show ¬ g + 1 = x by omega), if_neg (fun h => h.2.elim h1 h2)]; omega
  · rw [if_neg hm, if_neg hm, if_neg (fun h => hm h.1)]; rfl
/-- The next map behind so many of an entry's two neighbours. -/
def stF (may : Int → Bool) (N : Int → Int) (x c : Int) (j : Nat) (g : Int) : Int := N g + (if may g = true ∧ ((g = x - 1 ∧ 0 < j) ∨ (g = x + 1 ∧ 1 < j)) then c else 0)
theorem stF_zero (may : Int → Bool) (N : Int → Int) (x c g : Int) : stF may N x c 0 g = N g := by
  unfold stF; rw [if_neg (by omega)]; omega
theorem stF_two (may : Int → Bool) (N : Int → Int) (x c g : Int) : stF may N x c 2 g = N g + (if may g = true ∧ (g = x - 1 ∨ g = x + 1) then c else 0) := by
  unfold stF
  by_cases h : may g = true ∧ (g = x - 1 ∨ g = x + 1)
  · rw [if_pos h, if_pos ⟨h.1, by omega⟩]
  · rw [if_neg h, if_neg (fun h2 => h ⟨h2.1, by omega⟩)]
/-- The j-th neighbour. -/
def nbr (x : Int) (j : Nat) : Int := if j = 0 then x - 1 else x + 1
theorem stF_yes {may : Int → Bool} {N : Int → Int} {x c : Int} {j : Nat} (hj : j < 2) (hm : may (nbr x j) = true) (g : Int) : stF may N x c (j + 1) g = put1 (stF may N x c j) (nbr x j) (stF may N x c j (nbr x j) + c) g := by
  have h2 : j = 0 ∨ j = 1 := by omega
  unfold put1
  by_cases e : g = nbr x j
  · subst e
    rw [if_pos rfl]
    rcases h2 with rfl | rfl
    · have e0 : nbr x 0 = x - 1 := rfl
      rw [e0] at hm ⊢
      unfold stF
      rw [if_pos ⟨hm, by omega⟩, if_neg (by omega)]; omega
    · have e0 : nbr x 1 = x + 1 := rfl
      rw [e0] at hm ⊢
      unfold stF
      rw [if_pos ⟨hm, by omega⟩, if_neg (by omega)]; omega
  · rw [if_neg e]
    unfold stF
    rcases h2 with rfl | rfl
    · have e0 : nbr x 0 = x - 1 := rfl
      rw [e0] at e
      rw [if_neg (by omega), if_neg (by omega)]
    · have e0 : nbr x 1 = x + 1 := rfl
      rw [e0] at e
      by_cases h : may g = true ∧ (g = x - 1 ∧ 0 < 1 ∨ g = x + 1 ∧ 1 < 1)
      · rw [if_pos h, if_pos ⟨h.1, by omega⟩]
      · rw [if_neg h, if_neg (fun h3 => h ⟨h3.1, by omega⟩)]
theorem stF_no {may : Int → Bool} {N : Int → Int} {x c : Int} {j : Nat} (hj : j < 2) (hm : may (nbr x j) = false) (g : Int) : stF may N x c (j + 1) g = stF may N x c j g := by
  have h2 : j = 0 ∨ j = 1 := by omega
  unfold stF
  rcases h2 with rfl | rfl
  · have e0 : nbr x 0 = x - 1 := rfl
    rw [e0] at hm
    by_cases e : g = x - 1
    · subst e; rw [hm, if_neg (by simp), if_neg (by simp)]
    · rw [if_neg (by omega), if_neg (by omega)]
  · have e0 : nbr x 1 = x + 1 := rfl
    rw [e0] at hm
    by_cases e : g = x + 1
    · subst e; rw [hm, if_neg (by simp), if_neg (by simp)]
    · by_cases h : may g = true ∧ (g = x - 1 ∧ 0 < 1 ∨ g = x + 1 ∧ 1 < 1)
      · rw [if_pos h, if_pos ⟨h.1, by omega⟩]
      · rw [if_neg h, if_neg (fun h3 => h ⟨h3.1, by omega⟩)]
end Go.Proofs.Ytojoecoocbjgaaa
