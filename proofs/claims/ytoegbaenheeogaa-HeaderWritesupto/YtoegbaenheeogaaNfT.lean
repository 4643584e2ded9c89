import Derived.Test.YtoegbaenheeogaaNfI
namespace Go.Proofs.Ytoegbaenheeogaa
open Go.RowKit
set_option linter.unusedVariables false
/-! ### The document's Octal -/
theorem drop_atF (b : List By) (I : Nat) (h : I < b.length) : b.drop I = b[I] :: b.drop (I + 1) := List.drop_eq_getElem_cons h
theorem sl_rd {X : Nat → Prop} {a : Option Addr} {n c : Nat} {b : List By} {w : World} (hb : Sl X (.slice a n c) b w) : ∀ I, (hI : I < b.length) → ∃ g o, a = some ⟨g, o, none⟩ ∧ w.cell? ⟨g, o + I, none⟩ = some (.int .u8 b[I].toNat) := fun I hI => by
  rcases hb with ⟨a', e, e2⟩ | ⟨g, _, o, c', e, e1, e2, hr⟩
  · subst e2; simp at hI
  · injection e with e _ ec
    exact ⟨g, o, e, hr I hI⟩
/-- What the number stands at: what was read, and whether it went over. -/
def OcS (ds : List By) (N : Nat) (big : Bool) : Prop := N ≤ 9223372036854775807 ∧ ((big = false ∧ N = v8 0 ds) ∨ (big = true ∧ mx < v8 0 ds))
theorem OcS.nil : OcS [] 0 false := ⟨by omega, .inl ⟨rfl, rfl⟩⟩
theorem OcS.over {ds : List By} {N d : Nat} {big : Bool} (h : OcS ds N big) (x : By) (hx : x.toNat = 48 + d) (hd : d < 8) (ho : (9223372036854775807 - d) / 8 < N) : OcS (ds ++ [x]) N true := by
  refine ⟨h.1, .inr ⟨rfl, ?_⟩⟩
  rw [v8_app, v8_cons, v8_nil, hx]
  rcases h.2 with ⟨_, e⟩ | ⟨_, e⟩
  · rw [← e, mx_eq]; omega
  · rw [mx_eq] at e ⊢; omega
theorem OcS.step {ds : List By} {N d : Nat} {big : Bool} (h : OcS ds N big) (x : By) (hx : x.toNat = 48 + d) (hd : d < 8) (ho : ¬ (9223372036854775807 - d) / 8 < N) : OcS (ds ++ [x]) (N * 8 + d) big := by
  refine ⟨by omega, ?_⟩
  rw [v8_app, v8_cons, v8_nil, hx]
  rcases h.2 with ⟨e0, e⟩ | ⟨e0, e⟩
  · exact .inl ⟨e0, by rw [← e]; omega⟩
  · exact .inr ⟨e0, by rw [mx_eq] at e ⊢; omega⟩
theorem oct_end (b : List By) (ds r : List By) (N : Nat) (big : Bool) (h : OcS ds N big) (h1 : b.dropWhile isBl = ds ++ r) (h2 : ds.all isD = true) (h3 : ∀ x, r.head? = some x → isD x = false) : dgs b = ds ∧ rst b = r := by
  unfold dgs rst
  rw [h1]
  exact tw_all ds r isD h2 h3
theorem isBl_toNat (x : By) : isBl x = decide ((x.toNat : Int) = 32) := by
  unfold isBl
  apply decide_eq_decide.2
  constructor
  · rintro rfl; rfl
  · intro h; exact BitVec.eq_of_toNat_eq (by show x.toNat = 32; omega)
end Go.Proofs.Ytoegbaenheeogaa
