import Derived.Test.YtoegbaenheeogaaGreatDoorNhR
namespace Go.Proofs.YtoegbaenheeogaaGreatDoor
open Go.RowKit
set_option linter.unusedVariables false
/-! ### A header being read -/
structure DI (b : List By) (f I J hb : Nat) (U0 w : World) : Prop where
  hd : HcH hb (dH b f I J) w
  fr : Fr (fun k => k = hb) U0 w
theorem DI.nw {b : List By} {f I J hb : Nat} {U0 w w' : World} (H : DI b f I J hb U0 w) (k : Nw w w') : DI b f I J hb U0 w' := ⟨Nw.heap k H.hd, Fr.then H.fr k (fun i hi => hi.elim)⟩
theorem hc_set {g : Nat} {h h' : Hr} {w : World} (H : HcH g h w) (sl : Nat) (v : Value) (e : h'.C = h.C.setIfInBounds sl v) : HcH g h' (w.setCell ⟨g, sl, none⟩ v) := by
  unfold HcH at H ⊢
  simp only [World.setCell, Array.getElem?_modify, H]
  simp [e]
theorem DI.tset {b : List By} {f I J hb : Nat} {U0 w : World} (H : DI b f I J hb U0 w) {o n sl : Nat} (ht : tF[I]? = some (o, n)) (hs : sT[I]? = some sl) (ho : o < fE f) : DI b f (I + 1) J hb U0 (w.setCell ⟨hb, sl, none⟩ (.string (str (txt (fd b o n))))) :=
  ⟨hc_set H.hd sl _ (dH_t b f I J o n sl ht hs ho), H.fr.setCell ⟨hb, sl, none⟩ _ (.inl rfl)⟩
theorem DI.tskip {b : List By} {f I J hb : Nat} {U0 w : World} (H : DI b f I J hb U0 w) {o n : Nat} (ht : tF[I]? = some (o, n)) (ho : ¬ o < fE f) : DI b f (I + 1) J hb U0 w :=
  ⟨by rw [dH_tn b f I J o n ht ho]; exact H.hd, H.fr⟩
theorem DI.nset {b : List By} {f I J hb : Nat} {U0 w : World} (H : DI b f I J hb U0 w) {o n sl : Nat} {bl : Bool} (ht : nF[J]? = some (o, n, bl)) (hs : sN[J]? = some sl) (ho : o < fE f) : DI b f I (J + 1) hb U0 (w.setCell ⟨hb, sl, none⟩ (.int .i64 (nmN (fd b o n)))) :=
  ⟨hc_set H.hd sl _ (dH_n b f I J o n sl bl ht hs ho), H.fr.setCell ⟨hb, sl, none⟩ _ (.inl rfl)⟩
theorem DI.nskip {b : List By} {f I J hb : Nat} {U0 w : World} (H : DI b f I J hb U0 w) {o n : Nat} {bl : Bool} (ht : nF[J]? = some (o, n, bl)) (ho : ¬ o < fE f) : DI b f I (J + 1) hb U0 w :=
  ⟨by rw [dH_nn b f I J o n bl ht ho]; exact H.hd, H.fr⟩
theorem dH_zero (b : List By) (f : Nat) : (dH b f 0 0).C = #[.int .i64 (f : Nat), .string ⟨#[]⟩, .string ⟨#[]⟩, .int .i64 0, .int .i64 0, .int .i64 0, .int .i64 0, .int .i64 0, .int .u8 ((tyOf b).toNat : Nat), .string ⟨#[]⟩, .string ⟨#[]⟩, .string ⟨#[]⟩, .int .i64 0, .int .i64 0] := by
  simp [dH, dT, dN, Hr.C, eS]
theorem hc_one (h : Hr) : h.C.all (·.oneCell') = true := by simp [Hr.C, Value.oneCell']
theorem hc_len (h : Hr) : h.C.size = 14 := rfl
/-- A text of the header's block is there: whatever is read. -/
theorem DI.tcell {b : List By} {f I J hb : Nat} {U0 w : World} (H : DI b f I J hb U0 w) (sl : Nat) (h : sl < 14) : ∃ v, w.cell? ⟨hb, sl, none⟩ = some v ∧ w.frozen? ⟨hb, sl, none⟩ = false := by
  have e : (dH b f I J).C[sl]? = some ((dH b f I J).C[sl]'(by rw [hc_len]; exact h)) := Array.getElem?_eq_getElem (by rw [hc_len]; exact h)
  exact ⟨_, cell_of H.hd sl _ e, frz_of H.hd sl⟩
theorem sT_lt {I sl : Nat} (h : sT[I]? = some sl) : sl < 14 := by
  have h5 : I < 5 := (List.getElem?_eq_some_iff.1 h).1
  rcases five h5 with rfl | rfl | rfl | rfl | rfl <;>
  · simp only [sT, List.getElem?_cons_zero, List.getElem?_cons_succ, Option.some.injEq] at h
    omega
theorem sN_lt {I sl : Nat} (h : sN[I]? = some sl) : sl < 14 := by
  have h5 : I < 7 := (List.getElem?_eq_some_iff.1 h).1
  rcases seven h5 with rfl | rfl | rfl | rfl | rfl | rfl | rfl <;>
  · simp only [sN, List.getElem?_cons_zero, List.getElem?_cons_succ, Option.some.injEq] at h
    omega
/-! ### The form that a magic tells -/
theorem u8_inj' {a c : List By} (h : a.map u8 = c.map u8) : a = c := by
  have : str a = str c := by unfold str; rw [h]
  exact str_inj.1 this
theorem mF_mg (l : List By) : mF (l.map u8) = if l = mg 3 then some 3 else if l = mg 2 then some 2 else if l = mg 1 then some 1 else none := by
  have e1 : mk1 = (mg 1).map u8 := by decide
  have e2 : mk2 = (mg 2).map u8 := by decide
  have e3 : mk3 = (mg 3).map u8 := by decide
  unfold mF
  rw [e1, e2, e3]
  have key : ∀ c : List By, (l.map u8 = c.map u8) = (l = c) := fun c => propext ⟨u8_inj', fun h => by rw [h]⟩
  simp only [key]
theorem mF_of (b : List By) : (mgOf b = 0 ∧ mF ((fd b 257 8).map u8) = none) ∨ (isF (mgOf b) ∧ mF ((fd b 257 8).map u8) = some (mgOf b)) := by
  rw [mF_mg]
  unfold mgOf
  by_cases h1 : fd b 257 8 = mg 1
  · rw [if_pos h1, h1]
    exact .inr ⟨.inl rfl, by decide⟩
  · rw [if_neg h1, if_neg h1]
    by_cases h2 : fd b 257 8 = mg 2
    · rw [if_pos h2, h2]
      exact .inr ⟨.inr (.inl rfl), by decide⟩
    · rw [if_neg h2, if_neg h2]
      by_cases h3 : fd b 257 8 = mg 3
      · rw [if_pos h3, h3]
        exact .inr ⟨.inr (.inr rfl), by decide⟩
      · rw [if_neg h3, if_neg h3]
        exact .inl ⟨rfl, rfl⟩
theorem set_idH {w : World} {g i : Nat} {h : Hr} {v : Value} (H : HcH g h w) (hv : h.C[i]? = some v) : w.setCell ⟨g, i, none⟩ v = w := by
  have hh : (w.setCell ⟨g, i, none⟩ v).heap = w.heap := by
    apply Array.ext_getElem?
    intro k
    simp only [World.setCell, Array.getElem?_modify]
    by_cases hk : g = k
    · subst hk
      have H' : w.heap[g]? = some (.cells h.C 24) := H
      rw [H']
      simp only [if_true, Option.map_some]
      congr 2
      apply Array.ext_getElem?
      intro j
      rw [if_neg (by decide), Array.getElem?_setIfInBounds]
      by_cases hj : i = j
      · subst hj
        rw [if_pos rfl, hv]
        have := (Array.getElem?_eq_some_iff.1 hv).1
        rw [if_pos this]
      · rw [if_neg hj]
    · rw [if_neg hk]
  cases w
  simp only [World.setCell] at hh ⊢
  rw [hh]
end Go.Proofs.YtoegbaenheeogaaGreatDoor
