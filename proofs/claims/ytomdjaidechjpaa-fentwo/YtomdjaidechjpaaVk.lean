/- Counts kept as a map[[2]int]int of the call's own: what is read, and 'm[k]++' as an entry and a store. -/
import Derived.Test.YtomdjaidechjpaaTv
import Derived.Maps.Own
import Derived.Maps.Views
import Derived.Maps.OwnSet
import Derived.WideKeyPair
import Derived.WideKeyEntry
namespace Go.Proofs.Ytomdjaidechjpaa
open Go.RowKit Go.Maps Go.WideMaps

theorem arrP : ArrKey Try.prog 35 3 2 := ⟨Try.underlying35, by kernel_rfl, by kernel_rfl, by kernel_rfl⟩
theorem lawK : KeyLaw Try.prog 35 := arrP.law
theorem lawP : Keyed Try.prog 35 := Keyed.of_law lawK
def keyP (i j : Nat) : Value := .agg #[.int .i64 (i : Int), .int .i64 (j : Int)]
def litP (i j : Nat) : Lit := .string (keyBytes [.int .i64 (i : Int), .int .i64 (j : Int)])
theorem wfP {y : Nat} (h : y < 1000000) : (Lit.int .i64 (y : Int)).wf = true := by
  simp [Lit.wf, IntKind.min, IntKind.max, IntKind.signed, IntKind.bits]; omega
theorem keyOfP {i j : Nat} (hi : i < 1000000) (hj : j < 1000000) : keyOf Try.prog 35 (keyP i j) = some (litP i j) :=
  keyOf_pair arrP Try.underlying3 ⟨Try.prog.types.size - 1, by kernel_rfl⟩ (wfP hi) (wfP hj)
theorem litP_inj {i j i' j' : Nat} (hi : i < 1000000) (hj : j < 1000000) (hi' : i' < 1000000) (hj' : j' < 1000000) (h : litP i j = litP i' j') : i = i' ∧ j = j' := by
  have e := lawP.inj (keyOfP hi hj) (by rw [h]; exact keyOfP hi' hj')
  unfold keyP at e
  injection e with e
  have e := congrArg Array.toList e
  simp at e
  omega
theorem zeroP (w : World) : (zeroValue 3).run Try.prog w = .ok (.int .i64 0) w := by
  obtain ⟨i0, hi0, hz0, _, _⟩ := info_parts info_int
  simp [zeroValue, typeInfo, hi0, hz0]

/-- Block b is a map that says F i j at each pair. -/
def PairM (w : World) (b n : Nat) (F : Nat → Nat → Int) : Prop :=
  ∃ D : DataW Unit, w.ownsMap Try.prog 35 (plainElem Try.prog 3) b n D ∧ ∀ i j : Nat, i < 1000 → j < 1000 → D.atKey (litP i j) (.lit (.int .i64 0)) = .lit (.int .i64 (F i j))
theorem PairM.made (w : World) : PairM (w.alloc (.map #[] 0)) w.heap.size 0 (fun _ _ => 0) :=
  ⟨_, World.ownsMap_made w Try.prog 35 _, fun _ _ _ _ => rfl⟩
theorem PairM.of_block {w w' : World} {b n : Nat} {F : Nat → Nat → Int} (h : PairM w b n F) (hb : w'.heap[b]? = w.heap[b]?) : PairM w' b n F := by
  obtain ⟨D, ⟨es, clock, h1, h2⟩, hc⟩ := h
  exact ⟨D, ⟨es, clock, hb.trans h1, h2⟩, hc⟩
theorem PairM.lt {w : World} {b n : Nat} {F : Nat → Nat → Int} (h : PairM w b n F) : b < w.heap.size := by
  obtain ⟨D, hD, _⟩ := h
  exact hD.lt
theorem PairM.later {w w' : World} {b n : Nat} {F : Nat → Nat → Int} (h : PairM w b n F) (hb : Below w.heap.size w w') : PairM w' b n F := h.of_block (hb.block b h.lt)
theorem PairM.congr {w : World} {b n : Nat} {F G : Nat → Nat → Int} (h : PairM w b n F) (e : ∀ i j : Nat, i < 1000 → j < 1000 → F i j = G i j) : PairM w b n G := by
  obtain ⟨D, hD, hF⟩ := h
  exact ⟨D, hD, fun i j hi hj => by rw [hF i j hi hj, e i j hi hj]⟩
theorem PairM.mono {w : World} {b n n' : Nat} {F : Nat → Nat → Int} (h : PairM w b n F) (hn : n ≤ n') : PairM w b n' F := by
  obtain ⟨D, hD, hF⟩ := h
  exact ⟨D, hD.mono hn, hF⟩
/-- 'm[{i, j}]'. -/
theorem PairM.look {w : World} {b n : Nat} {F : Nat → Nat → Int} (h : PairM w b n F) {i j : Nat} (hi : i < 1000) (hj : j < 1000) : (Instr.lookup 34 (.map (some b)) (keyP i j) false).run Try.prog w = .ok (.int .i64 (F i j)) w ∧ (Lit.int .i64 (F i j)).wf = true := by
  obtain ⟨D, hD, hF⟩ := h
  obtain ⟨c, hrun, hat, hw⟩ := hD.lookup_int lawP Try.underlying34 Try.underlying3 (zeroP w) (keyOfP (show i < 1000000 by omega) (show j < 1000000 by omega))
  rw [hF i j hi hj] at hat
  injection hat with hat
  injection hat with _ hat
  subst hat
  exact ⟨hrun, hw⟩
/-- 'm[{i, j}] = x'. -/
def upd (F : Nat → Nat → Int) (i j : Nat) (x : Int) : Nat → Nat → Int := fun p q => if p = i ∧ q = j then x else F p q
theorem PairM.put {w : World} {b n : Nat} {F : Nat → Nat → Int} (h : PairM w b n F) {i j : Nat} (hi : i < 1000) (hj : j < 1000) (hn : n < 1000000) {x : Int} (hx : (Lit.int .i64 x).wf = true) :
    ∃ w', (Instr.mapUpdate 34 (.map (some b)) (keyP i j) (.int .i64 x)).run Try.prog w = .ok () w' ∧ PairM w' b (n + 1) (upd F i j x) ∧ w.grownBy w' (some b) := by
  obtain ⟨D, hD, hF⟩ := h
  have hk := keyOfP (i := i) (j := j) (show i < 1000000 by omega) (show j < 1000000 by omega)
  obtain ⟨w', hrun, hD', hg⟩ := hD.update lawP Try.underlying34 (by unfold maxLen; omega) hk (plainElem_int (H := Unit) Try.underlying3 hx)
  refine ⟨w', hrun, ⟨_, hD', fun p q hp hq => ?_⟩, hg⟩
  unfold upd
  by_cases e : p = i ∧ q = j
  · obtain ⟨rfl, rfl⟩ := e
    rw [if_pos ⟨rfl, rfl⟩]
    exact atKey_put_same hD.isMap (lawP.key hk) _ _
  · rw [if_neg e, atKey_put_other (fun h => e (litP_inj (by omega) (by omega) (by omega) (by omega) h)), hF p q hp hq]
/-- The entry alone is as if what stands there were put there. -/
theorem entry_put {w : World} {b : Nat} {es : Array MapEntry} {clock : Nat} (hb : w.heap[b]? = some (.map es clock)) (hks : ∀ x ∈ es.toList, ∃ l, keyOf Try.prog 35 x.key = some l) {key v st : Value} {w1 : World} {kl : Lit} (hkey : keyOf Try.prog 35 key = some kl)
    (hE : (Instr.mapEntry 34 (.map (some b)) key).run Try.prog w = .ok (.tuple #[v, st]) w1) :
    (Instr.lookup 34 (.map (some b)) key false).run Try.prog w = .ok v w ∧ (Instr.mapUpdate 34 (.map (some b)) key v).run Try.prog w = .ok () w1 := by
  rcases lawK.find w hkey es.toList hks with ⟨h1, h2⟩ | ⟨j, e0, h1, h2, h3⟩
  · simp [Instr.mapEntry, run_underlying Try.underlying34, MapKept.run_getObj_map hb, lawK.check w false hkey, h1, zeroP, MapKept.run_setObj_map _ hb, Result.andThen] at hE
    obtain ⟨⟨rfl, _⟩, rfl⟩ := hE
    constructor
    · simp [Instr.lookup, run_underlying Try.underlying34, MapKept.run_getObj_map hb, lawK.check w _ hkey, h1, zeroP, Result.andThen]
    · simp [Instr.mapUpdate, run_underlying Try.underlying34, MapKept.run_getObj_map hb, lawK.check w false hkey, h1, MapKept.run_setObj_map _ hb, Result.andThen]
  · have hj : es[j]? = some e0 := by simpa using h2
    have hm : es.modify j (fun e => { e with key := key }) = es.modify j (fun e => { e with key := key, val := e0.val }) := by
      apply Array.ext'
      rw [Array.toList_modify, Array.toList_modify, ChangeMaps.modify_eq_set _ _ _ _ h2, ChangeMaps.modify_eq_set _ _ _ _ h2]
    simp [Instr.mapEntry, run_underlying Try.underlying34, MapKept.run_getObj_map hb, lawK.check w false hkey, h1, hj, h3, lawK.stays w hkey, MapKept.run_setObj_map _ hb, Result.andThen] at hE
    obtain ⟨⟨rfl, _⟩, rfl⟩ := hE
    constructor
    · simp [Instr.lookup, run_underlying Try.underlying34, MapKept.run_getObj_map hb, lawK.check w _ hkey, h1, Result.andThen]
    · simp [Instr.mapUpdate, run_underlying Try.underlying34, MapKept.run_getObj_map hb, lawK.check w false hkey, h1, hj, h3, lawK.stays w hkey, MapKept.run_setObj_map _ hb, Result.andThen, hm]
theorem setB_twice (w : World) (b : Nat) (o o2 : Obj) : ChangeMaps.setBlock (ChangeMaps.setBlock w b o) b o2 = ChangeMaps.setBlock w b o2 := by
  unfold ChangeMaps.setBlock
  simp
/-- 'm[{i, j}]++' in its parts: the entry, what is read before it and behind it, and the store. -/
theorem PairM.inc {w : World} {b n : Nat} {F : Nat → Nat → Int} (h : PairM w b n F) {i j : Nat} (hi : i < 1000) (hj : j < 1000) (hn : n < 1000000) (hx : (Lit.int .i64 (F i j + 1)).wf = true) :
    ∃ (st : Nat) (w1 w2 : World), (Instr.mapEntry 34 (.map (some b)) (keyP i j)).run Try.prog w = .ok (.tuple #[.int .i64 (F i j), .int .i64 (st : Int)]) w1 ∧
      (Instr.lookup 34 (.map (some b)) (keyP i j) false).run Try.prog w = .ok (.int .i64 (F i j)) w ∧
      (Instr.lookup 34 (.map (some b)) (keyP i j) false).run Try.prog w1 = .ok (.int .i64 (F i j)) w1 ∧
      (Instr.entryStore 34 (.map (some b)) (.int .i64 (st : Int)) (.int .i64 (F i j + 1))).run Try.prog w1 = .ok () w2 ∧
      PairM w2 b (n + 1) (upd F i j (F i j + 1)) ∧ w.grownBy w2 (some b) := by
  have hk := keyOfP (i := i) (j := j) (show i < 1000000 by omega) (show j < 1000000 by omega)
  obtain ⟨hl, hw⟩ := h.look hi hj
  obtain ⟨w2, hu2, hP2, hg2⟩ := h.put hi hj hn hx
  obtain ⟨w1, hu1, hP1, hg1⟩ := h.put hi hj hn hw
  have h0 := h
  obtain ⟨D, ⟨es, clock, hb, F0, hsz, hDe⟩, hF⟩ := h
  obtain ⟨v0, st, es1, clock1, hE, _, hS⟩ := WideElems.entry_then_store lawK Try.underlying34 zeroP hb F0 hk
  obtain ⟨e1, e2⟩ := entry_put hb F0.keys hk hE
  rw [hl] at e1
  injection e1 with e1 _
  subst e1
  rw [hu1] at e2
  injection e2 with _ e2
  subst e2
  obtain ⟨es', clock', hs1, hs2⟩ := hS (ChangeMaps.setBlock w b (.map es1 clock1)) (.int .i64 (F i j + 1)) (ChangeMaps.heap_setBlock_same hb _)
  rw [hu2] at hs2
  injection hs2 with _ hs2
  subst hs2
  rw [setB_twice] at hs1
  have hl1 := (hP1.look hi hj).1
  rw [show upd F i j (F i j) i j = F i j from if_pos ⟨rfl, rfl⟩] at hl1
  exact ⟨st, _, _, hE, hl, hl1, hs1, hP2, hg2⟩
end Go.Proofs.Ytomdjaidechjpaa
