/- Merging reservoirs: the mathematics of package join. -/
import Derived.Test.YtjhcbjpbmbjgoaaZa
namespace Go.Proofs.Ytjhcbjpbmbjgoaa

/-- Selections one after the other: how many are left of both streams, what is left of both samples, what has been selected. -/
def selJ : Int → Int → List Int → List Int → List Int → List Int → List Int → List Int × Int
  | na, nb, xs, ys, acc, d :: ds, h :: hs =>
    if d < 0 ∨ na + nb ≤ d then ([], 2)
    else if d < na then (if h < 0 ∨ (xs.length : Int) ≤ h then ([], 2) else selJ (na - 1) nb (xs.eraseIdx h.toNat) ys (acc ++ [xs.getD h.toNat 0]) ds hs)
    else (if h < 0 ∨ (ys.length : Int) ≤ h then ([], 2) else selJ na (nb - 1) xs (ys.eraseIdx h.toNat) (acc ++ [ys.getD h.toNat 0]) ds hs)
  | _, _, _, _, acc, _, _ => (acc, 0)
/-- May both be merged? -/
def JR (ra ca : Int) (xs : List Int) (rb cb : Int) (ys : List Int) : Prop := PR ra ca xs ∧ PR rb cb ys ∧ ra = rb
instance (ra ca : Int) (xs : List Int) (rb cb : Int) (ys : List Int) : Decidable (JR ra ca xs rb cb ys) := by unfold JR; infer_instance
def ansJ (r c : Int) (s : List Int × Int) : Res := if s.2 = 0 then ((r, c, s.1), 0) else (pz, s.2)
def poolsR (ra ca : Int) (xs : List Int) (rb cb : Int) (ys ws hs : List Int) : Res :=
  if JR ra ca xs rb cb ys then
    (if 1099511627776 < ca + cb then (pz, 4)
    else if (ws.length : Int) < min ra (ca + cb) ∨ (hs.length : Int) < min ra (ca + cb) then (pz, 7)
    else ansJ ra (ca + cb) (selJ ca cb xs ys [] (ws.take (min ra (ca + cb)).toNat) (hs.take (min ra (ca + cb)).toNat)))
  else (pz, 1)

theorem selJ_end {na nb : Int} {xs ys acc ds hs : List Int} {k : Nat} (h : ds.length ≤ k) : selJ na nb xs ys acc (ds.drop k) (hs.drop k) = (acc, 0) := by
  rw [List.drop_eq_nil_of_le h]
  rfl
theorem selJ_at {na nb : Int} {xs ys acc ds hs : List Int} {k : Nat} (h1 : k < ds.length) (h2 : k < hs.length) : selJ na nb xs ys acc (ds.drop k) (hs.drop k) =
    if ds.getD k 0 < 0 ∨ na + nb ≤ ds.getD k 0 then ([], 2)
    else if ds.getD k 0 < na then (if hs.getD k 0 < 0 ∨ (xs.length : Int) ≤ hs.getD k 0 then ([], 2) else selJ (na - 1) nb (xs.eraseIdx (hs.getD k 0).toNat) ys (acc ++ [xs.getD (hs.getD k 0).toNat 0]) (ds.drop (k + 1)) (hs.drop (k + 1)))
    else (if hs.getD k 0 < 0 ∨ (ys.length : Int) ≤ hs.getD k 0 then ([], 2) else selJ na (nb - 1) xs (ys.eraseIdx (hs.getD k 0).toNat) (acc ++ [ys.getD (hs.getD k 0).toNat 0]) (ds.drop (k + 1)) (hs.drop (k + 1))) := by
  rw [drop_cons h1, drop_cons h2]
  rfl
theorem getD_take {l : List Int} {n k : Nat} (h : k < n) : (l.take n).getD k 0 = l.getD k 0 := by
  simp [List.getD_eq_getElem?_getD, List.getElem?_take, h]
/-- What comes back is new elements out of both. -/
theorem selJ_err {ds : List Int} : ∀ {na nb : Int} {xs ys acc hs : List Int}, (selJ na nb xs ys acc ds hs).2 = 0 ∨ selJ na nb xs ys acc ds hs = ([], 2) := by
  induction ds with
  | nil => intro na nb xs ys acc hs; exact .inl rfl
  | cons d ds ih =>
    intro na nb xs ys acc hs
    cases hs with
    | nil => exact .inl rfl
    | cons h hs =>
      rw [selJ]
      split
      · exact .inr rfl
      · split
        · split
          · exact .inr rfl
          · exact ih
        · split
          · exact .inr rfl
          · exact ih
end Go.Proofs.Ytjhcbjpbmbjgoaa
