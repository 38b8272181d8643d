/- The document's own tree: Place, Before. -/
import Derived.Test.YtopmahiapejkgaaDmRefC
namespace Go.Proofs.Ytopmahiapejkgaa.Dm
open Go Go.RowKit

theorem kids_split {es : List El} {p e : Nat} (hp : parentV es (e : Int) = (p : Int)) : ∀ n, e < n → ∃ r, kidsTo es p n = kidsTo es p e ++ e :: r
  | 0, h => by omega
  | n + 1, h => by
    rw [kids_next]
    by_cases he : e = n
    · subst he
      exact ⟨[], by rw [if_pos hp]⟩
    · obtain ⟨r, hr⟩ := kids_split hp n (by omega)
      exact ⟨r ++ _, by rw [hr, List.append_assoc, List.cons_append]⟩
theorem place_kids {es : List El} (hO : TreeOk es) {p e : Nat} (he : e < es.length) (hp : parentV es (e : Int) = (p : Int)) : placeV es (e : Int) = ((kidsTo es p e).length : Int) + 1 := by
  have h0 : 0 < e := by
    rcases Nat.eq_zero_or_pos e with h | h
    · subst h; rw [par_root hO he] at hp; omega
    · exact h
  obtain ⟨p', hp', hlt⟩ := par_lt hO he h0
  obtain rfl : p = p' := by omega
  obtain ⟨q, hq⟩ : ∃ q, es[p]? = some q := ⟨_, List.getElem?_eq_getElem (by omega)⟩
  obtain ⟨r, hr⟩ := kids_split hp es.length he
  rw [kids_all hO hq] at hr
  exact place_of hO hq (i := (kidsTo es p e).length) (by rw [hr]; simp)
theorem before_none {es : List El} (hO : TreeOk es) {p e : Nat} (he : e < es.length) (hp : parentV es (e : Int) = (p : Int)) (hlt : p < e) (hk : kidsTo es p e = []) : beforeV es (e : Int) = -1 := by
  obtain ⟨q, hq⟩ : ∃ q, es[p]? = some q := ⟨_, List.getElem?_eq_getElem (by omega)⟩
  obtain ⟨r, hr⟩ := kids_split hp es.length he
  rw [kids_all hO hq, hk] at hr
  exact before_first hO hq (by rw [hr]; rfl)
theorem before_some {es : List El} (hO : TreeOk es) {p e d : Nat} {a : List Nat} (he : e < es.length) (hp : parentV es (e : Int) = (p : Int)) (hlt : p < e) (hk : kidsTo es p e = a ++ [d]) : beforeV es (e : Int) = (d : Int) := by
  obtain ⟨q, hq⟩ : ∃ q, es[p]? = some q := ⟨_, List.getElem?_eq_getElem (by omega)⟩
  obtain ⟨r, hr⟩ := kids_split hp es.length he
  rw [kids_all hO hq, hk] at hr
  exact before_later hO hq (i := a.length) (by rw [hr]; simp) (by rw [hr]; simp)
theorem kids_one {es : List El} (hO : TreeOk es) (hl : 0 < es.length) (p : Nat) : kidsTo es p 1 = [] := by
  rw [show (1 : Nat) = 0 + 1 from rfl, kids_next, if_neg (by rw [par_root hO hl]; omega)]
  rfl

end Go.Proofs.Ytopmahiapejkgaa.Dm
