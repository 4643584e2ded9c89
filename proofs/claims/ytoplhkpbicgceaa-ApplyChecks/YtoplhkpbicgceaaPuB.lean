import Derived.Test.YtoplhkpbicgceaaPuA
namespace Go.Proofs.Ytoplhkpbicgceaa
open Go.RowKit
set_option linter.unusedVariables false
theorem tx_eq (l m : Tx) : ((mk l).toList == m) = decide (l = m) := by
  rw [mk_toList]
  by_cases h : l = m
  · subst h; simp
  · rw [decide_eq_false h, beq_eq_false_iff_ne]; exact h
set_option maxHeartbeats 4000000 in
set_option maxRecDepth 100000 in
theorem pstays_any (l : Tx) (w : World) : Calls Try.prog 24 #[.string (mk l)] w fun e w' => e = .returned (.bool (stays l)) ∧ w = w' := by
  obtain ⟨P, hP⟩ : ∃ P : Ending → World → Prop, P = fun e w' => e = .returned (.bool (stays l)) ∧ w = w' := ⟨_, rfl⟩
  rw [← hP]
  have HF : Hid (P (.returned (.bool (stays l))) w) := by rw [hP]; exact ⟨rfl, rfl⟩
  clear hP
  have h1 := tx_eq l []
  have h2 := tx_eq l [46]
  have hs : stays l = (decide (l = []) || decide (l = [46])) := by
    unfold stays
    by_cases a : l = []
    · subst a; decide
    · by_cases b : l = [46]
      · subst b; decide
      · rw [decide_eq_false a, decide_eq_false b, beq_eq_false_iff_ne.2 a, beq_eq_false_iff_ne.2 b]
  rw [hs] at HF
  clear hs
  generalize mk l = s at *
  cases a : decide (l = []) with
  | true =>
    rw [a] at h1 HF
    go_enter Try.func24, Try.ntmps24
    go_wp2_with fail
    exact HF.out
  | false =>
    rw [a] at h1 HF
    rw [Bool.false_or] at HF
    generalize decide (l = [46]) = B at *
    go_enter Try.func24, Try.ntmps24
    go_wp2_with fail
    exact HF.out
/-! ### Piece by piece -/
def spB (T : List Tx → Tx → Bool) : List Tx → List Tx → Bool
  | _, [] => false
  | d, p :: r => if T d p = true then true else spB T (d ++ [p]) r
def spD (T : List Tx → Tx → Bool) : List Tx → List Tx → List Tx
  | d, [] => d
  | d, p :: r => if T d p = true then d ++ [p] else spD T (d ++ [p]) r
/-- What a function that is handed to somePiece keeps to. -/
structure So (cn : Nat) (cap : Value) (BB : Nat) (T : List Tx → Tx → Bool) (J : List Tx → World → Prop) : Prop where
  eg : ∀ args w, (callFunc cn args).run Try.prog w = .ok (.enter cn args) w
  nw : ∀ d V V', J d V → Nw V V' → J d V'
  call : ∀ d p V, d.length < BB → J d V → Calls Try.prog cn #[.string (mk p), cap] V fun e w' => e = .returned (.bool (T d p)) ∧ Hid (J (d ++ [p]) w')
set_option maxHeartbeats 8000000 in
set_option maxRecDepth 100000 in
theorem somePiece_any (cn : Nat) (cap : Value) (BB : Nat) (T : List Tx → Tx → Bool) (J : List Tx → World → Prop) (h : So cn cap BB T J) (l : Tx) (hb : (pcs l).length ≤ BB) (hs : l.length ≤ 140737488351232) (w : World) (h0 : J [] w) :
    Calls Try.prog 22 #[.string (mk l), .func (.func cn) #[] #[cap]] w fun e w' => e = .returned (.bool (spB T [] (pcs l))) ∧ J (spD T [] (pcs l)) w' := by
  obtain ⟨P, hP⟩ : ∃ P : Ending → World → Prop, P = fun e w' => e = .returned (.bool (spB T [] (pcs l))) ∧ J (spD T [] (pcs l)) w' := ⟨_, rfl⟩
  rw [← hP]
  have HP : Hid (P = fun e w' => e = .returned (.bool (spB T [] (pcs l))) ∧ J (spD T [] (pcs l)) w') := hP
  clear hP
  have HH : Hid (So cn cap BB T J) := h
  have H0 : Hid (J [] w ∧ l.length ≤ 140737488351232 ∧ (pcs l).length ≤ BB) := ⟨h0, hs, hb⟩
  have eg := h.eg
  clear h h0 hs hb
  go_enter Try.func22, Try.ntmps22
  go_wp2
  go_loopg [0, 5] (l.length + 1) (fun kx nm mr wr => ∃ (rest : Tx) (B : Bool), nm = .string (mk rest) ∧ mr = .bool B ∧ Hid ((if B = true then rest.length + 1 else 0) ≤ kx ∧ rest.length ≤ 140737488351232 ∧ ∃ done, J done wr ∧ (B = true → done.length + (pcs rest).length ≤ BB ∧ spB T [] (pcs l) = spB T done (pcs rest) ∧ spD T [] (pcs l) = spD T done (pcs rest)) ∧ (B = false → spB T [] (pcs l) = false ∧ spD T [] (pcs l) = done)))
  case atStart => exact ⟨l, true, rfl, rfl, by rw [if_pos rfl]; omega, H0.out.2.1, [], H0.out.1, fun _ => ⟨by simpa using H0.out.2.2, rfl, rfl⟩, fun h => by cases h⟩
  case round =>
    obtain ⟨rest, B, rfl, rfl, HI⟩ := hrel
    obtain ⟨hm, hr, done, hJ, hT, hE⟩ := HI.out
    cases B with
    | false =>
      obtain ⟨e1, e2⟩ := hE rfl
      have HF : Hid (P (.returned (.bool false)) wr) := by
        show P _ _
        rw [HP.out, e1, e2]; exact ⟨rfl, hJ⟩
      clear HI hm hr hJ hT hE HP H0 HH e1 e2
      go_wp2_with fail
      exact HF.out
    | true =>
      obtain ⟨e0, e1, e2⟩ := hT rfl
      rw [if_pos rfl] at hm
      have HC : Hid (Calls Try.prog 30 #[.string (mk rest), .string ⟨#[47]⟩] wr fun e w' => ∃ p r f, e = .returned (.tuple #[.string (mk p), .string (mk r), .bool f]) ∧ Hid (Cuts rest p r f ∧ J done w') ∧ Hid (Calls Try.prog cn #[.string (mk p), cap] w' fun e w'' => e = .returned (.bool (T done p)) ∧ Hid (J (done ++ [p]) w''))) := by
        show Calls _ _ _ _ _
        refine (scut_any rest wr hr).mono ?_
        rintro e w' ⟨p, r, f, rfl, hc, hN⟩
        have hJ' := HH.out.nw _ _ _ hJ hN
        exact ⟨p, r, f, rfl, ⟨hc, hJ'⟩, HH.out.call done p w' (by obtain ⟨q, qs, eq⟩ := pcs_cons (l := rest); rw [eq, List.length_cons] at e0; omega) hJ'⟩
      have HGO : Hid (∀ p r f V, Cuts rest p r f → J (done ++ [p]) V → (T done p = true → P (.returned (.bool true)) V) ∧ (T done p = false → (if f = true then r.length + 1 else 0) ≤ (if f = true then rest.length else 0) ∧ r.length ≤ 140737488351232 ∧ ∃ done', J done' V ∧ (f = true → done'.length + (pcs r).length ≤ BB ∧ spB T [] (pcs l) = spB T done' (pcs r) ∧ spD T [] (pcs l) = spD T done' (pcs r)) ∧ (f = false → spB T [] (pcs l) = false ∧ spD T [] (pcs l) = done'))) := by
        intro p r f V hc hJ2
        rcases hc with ⟨rfl, hl, hp⟩ | ⟨rfl, rfl, rfl, hp⟩
        · rw [hl, pcs_at p r hp, List.length_cons] at e0
          rw [hl, pcs_at p r hp, spB] at e1
          rw [hl, pcs_at p r hp, spD] at e2
          constructor
          · intro ht
            rw [if_pos ht] at e1 e2
            rw [HP.out, e1, e2]
            exact ⟨rfl, hJ2⟩
          · intro ht
            rw [ht, if_neg (by decide)] at e1 e2
            have : rest.length = p.length + 1 + r.length := by rw [hl]; simp; omega
            refine ⟨by rw [if_pos rfl, if_pos rfl]; omega, by omega, done ++ [p], hJ2, fun _ => ⟨by rw [List.length_append, List.length_singleton]; omega, e1, e2⟩, fun h => by cases h⟩
        · rw [pcs_none p hp, spB] at e1
          rw [pcs_none p hp, spD] at e2
          constructor
          · intro ht
            rw [if_pos ht] at e1 e2
            rw [HP.out, e1, e2]
            exact ⟨rfl, hJ2⟩
          · intro ht
            rw [ht, if_neg (by decide), spB] at e1
            rw [ht, if_neg (by decide), spD] at e2
            refine ⟨by simp, by simp, done ++ [p], hJ2, fun h => (by cases h), fun _ => ⟨e1, e2⟩⟩
      have HM := tHid hm
      clear HI hm hr hJ hT hE HP H0 HH e0 e1 e2
      go_wp2_with (first
        | (go_at_call 30; with_reducible refine HC.out.mono ?_; rintro e w1 ⟨p, r, f, rfl, H1, H2⟩))
      go_at_fn cn
      with_reducible refine H2.out.mono ?_
      rintro e w2 ⟨rfl, H3⟩
      have hgo := HGO.out p r f w2 H1.out.1 H3.out
      cases ht : T done p with
      | true =>
        have HF : Hid (P (.returned (.bool true)) w2) := hgo.1 ht
        clear HGO hgo H1 H2 H3 HC HM
        go_wp2_with fail
        exact HF.out
      | false =>
        have hg2 := hgo.2 ht
        have HG2 := tHid hg2
        clear HGO hgo H1 H2 H3 HC hg2
        go_wp2_with fail
        go_roundg (if f = true then r.length + 1 else 0)
        case measure =>
          have h1 := HG2.out.1
          have h2 := HM.out
          cases f with
          | true => rw [if_pos rfl] at h1 ⊢; rw [if_pos rfl] at h1; omega
          | false => simp; omega
        case rel => exact ⟨r, f, rfl, rfl, Nat.le_refl _, HG2.out.2⟩
end Go.Proofs.Ytoplhkpbicgceaa
