import Derived.Test.YtpnacppmdlnjlaaMaH
namespace Go.Proofs.Ytpnacppmdlnjlaa
open Go.RowKit
set_option linter.unusedVariables false
open Classical in
/-- What Play answers. -/
noncomputable def plR (l : List Si) (ahead : List By) (most : Int) : List By × Nat := if most < 0 ∨ 4194304 < most ∨ ¬ CanB l then ([], 1) else match plA (pl ahead most.toNat) l [] with
  | .error y => ([], y)
  | .ok s => (s, 0)
theorem plR_arg {l : List Si} {ahead : List By} {most : Int} (h : most < 0 ∨ 4194304 < most ∨ ¬ CanB l) : plR l ahead most = ([], 1) := by unfold plR; rw [if_pos h]
theorem plA_drop {σ : Type} (T : Tk σ) (l : List Si) (I : Nat) (h : I < l.length) (st : σ) : plA T (l.drop I) st = match plS T l[I] st with
    | .error y => .error y
    | .ok st' => plA T (l.drop (I + 1)) st' := by
  rw [List.drop_eq_getElem_cons h, plA]
  cases plS T l[I] st <;> rfl
set_option maxHeartbeats 8000000 in
set_option maxRecDepth 100000 in
theorem lzPlay_any (w : World) (v va : Value) (l : List Si) (ahead : List By) (most : Int) (hl : OldS w v l) (ha : Old w va ahead) (hal : ahead.length ≤ 140737488351232) : Calls Try.prog 21 #[v, va, .int .i64 most] w (Makd (plR l ahead most) w) := by
  obtain ⟨P, hP⟩ : ∃ P, P = Makd (plR l ahead most) w := ⟨_, rfl⟩
  rw [← hP]
  have HP : Hid (P = Makd (plR l ahead most) w) := hP
  clear hP
  by_cases hm : most < 0 ∨ 4194304 < most
  · have HF : Hid (P (.returned (.tuple #[.slice none 0 0, .int .i64 1])) w) := by
      show P _ _
      rw [HP.out, plR_arg (by rcases hm with h | h; exact .inl h; exact .inr (.inl h))]
      exact Makd.none (Fr.refl _ _)
    clear HP hl ha
    rcases hm with hm | hm
    · go_enter Try.func21, Try.ntmps21
      go_wp2
      exact HF.out
    · have h0 : 0 ≤ most := by omega
      have h1 : ¬ most ≤ 4194304 := by omega
      go_enter Try.func21, Try.ntmps21
      go_wp2
      exact HF.out
  obtain ⟨m, rfl⟩ : ∃ m : Nat, most = m := ⟨most.toNat, by omega⟩
  have hml : m ≤ 4194304 := by omega
  have h0 : (0 : Int) ≤ (m : Int) := by omega
  have h1 : (m : Int) ≤ 4194304 := by omega
  have HH : Hid (Calls Try.prog 27 #[.int .i64 m] w fun e w' => e = .returned (.bool true) ∧ w = w') := (canHold_yes m h0 h1 w).mono (fun e w' ⟨h1, h2⟩ => ⟨h1, h2.symm⟩)
  by_cases hcan : ¬ CanB l
  · have HC : Hid (Calls Try.prog 33 #[v] w fun e w' => e = .returned (.bool false) ∧ Hid (P (.returned (.tuple #[.slice none 0 0, .int .i64 1])) w')) := by
      refine (canBe_any _ w v l hl false ⟨fun h => (by cases h), fun h => absurd h hcan⟩).mono ?_
      rintro e w' ⟨rfl, hN⟩
      refine ⟨rfl, ?_⟩
      show P _ _
      rw [HP.out, plR_arg (.inr (.inr hcan))]
      exact Makd.none hN
    clear hl HP ha
    go_enter Try.func21, Try.ntmps21
    go_wp2_with (first
      | (go_at_call 27; with_reducible refine (HH.out).mono ?_; rintro e w3 ⟨rfl, rfl⟩)
      | (go_at_call 33; with_reducible refine (HC.out).mono ?_; rintro e w1 ⟨rfl, HE⟩))
    exact HE.out
  replace hcan : CanB l := Classical.not_not.1 hcan
  have HC : Hid (Calls Try.prog 33 #[v] w fun e w' => e = .returned (.bool true) ∧ Hid (Nw w w')) := canBe_any _ w v l hl true ⟨fun _ => hcan, fun _ => rfl⟩
  have hpl : plR l ahead m = match plA (pl ahead m) l [] with
      | .error y => ([], y)
      | .ok s => (s, 0) := by
    unfold plR; rw [if_neg (by rintro (h | h | h); omega; omega; exact h hcan)]; rfl
  have HPI : ∀ w1, Nw w w1 → PI w.heap.size w1.heap.size va ahead m [] (fun k => k < w1.heap.size) (w1.alloc (.cells #[va, .slice none 0 0, .int .i64 m] 53)) ∧ Nw w (w1.alloc (.cells #[va, .slice none 0 0, .int .i64 m] 53)) := by
    intro w1 hN1
    have hA : Nw w1 (w1.alloc (.cells #[va, .slice none 0 0, .int .i64 m] 53)) := (Fr.refl _ _).alloc _
    refine ⟨⟨?_, ?_, ⟨_, ?_, Mine.nil _ _⟩, ?_, by simp, hN1.size, ha.nw (hN1.trans hA), by simp, hml, hal⟩, hN1.trans hA⟩
    · exact new_cell _ _ _ _ _ rfl
    · exact new_cell _ _ _ _ _ rfl
    · exact new_cell _ _ _ _ _ rfl
    · exact new_frozen _ _ _ _
  have HPI' : Hid (∀ w1, Nw w w1 → PI w.heap.size w1.heap.size va ahead m [] (fun k => k < w1.heap.size) (w1.alloc (.cells #[va, .slice none 0 0, .int .i64 m] 53)) ∧ Nw w (w1.alloc (.cells #[va, .slice none 0 0, .int .i64 m] 53))) := HPI
  have HPL : Hid (plR l ahead m = match plA (pl ahead m) l [] with
      | .error y => ([], y)
      | .ok s => (s, 0)) := hpl
  obtain ⟨aa, ac, hva, hac, hac2, hao⟩ := ha.open
  obtain ⟨a, c, rfl, hc, hc2, hL⟩ := hl.form
  have HL : Hid (OldS w (.slice a l.length c) l) := hl
  have Hcan : Hid (CanB l) := hcan
  clear hl hcan HPI hpl ha hao
  subst hva
  generalize hln : l.length = L at *
  have hln' : Hid (l.length = L) := hln
  clear hln
  generalize ahead.length = A at *
  go_enter Try.func21, Try.ntmps21
  go_wp2_with (first
    | (go_at_call 27; with_reducible refine (HH.out).mono ?_; rintro e w3 ⟨rfl, rfl⟩)
    | (go_at_call 33; with_reducible refine (HC.out).mono ?_; rintro e w1 ⟨rfl, HN1⟩))
  obtain ⟨hPI1, hW1⟩ := HPI'.out w1 HN1.out
  have hs1 := HN1.out.size
  have HK : Hid (w.heap.size ≤ w1.heap.size) := hs1
  have HI0 : Hid (plA (pl ahead m) l [] = plA (pl ahead m) (l.drop 0) [] ∧ PI w.heap.size w1.heap.size (.slice aa A ac) ahead m [] (fun k => k < w1.heap.size) (w1.alloc (.cells #[.slice aa A ac, .slice none 0 0, .int .i64 m] 53)) ∧ Nw w (w1.alloc (.cells #[.slice aa A ac, .slice none 0 0, .int .i64 m] 53))) := ⟨rfl, hPI1, hW1⟩
  clear HPI' hPI1 hW1 HC HH HN1 hs1
  obtain ⟨pb, hpb⟩ : ∃ pb, w1.heap.size = pb := ⟨_, rfl⟩
  rw [hpb] at HI0 HK
  rw [hpb]
  go_loopg [26] L (fun kx i wr => ∃ (I : Nat), I ≤ L ∧ L - I ≤ kx ∧ i = .int .i64 I ∧ Hid (∃ st, plA (pl ahead m) l [] = plA (pl ahead m) (l.drop I) st ∧ PI w.heap.size pb (.slice aa A ac) ahead m st (fun k => k < pb) wr ∧ Nw w wr))
  case atStart => exact ⟨0, by omega, by omega, rfl, [], HI0.out⟩
  case round =>
    obtain ⟨I, hI, hkx, rfl, HI⟩ := hrel
    clear HI0
    obtain ⟨st, hA, hPI, hN⟩ := HI.out
    by_cases hlt : I < L
    · have hlt' : I < l.length := by rw [hln'.out]; omega
      obtain ⟨g, o, pa, pc, _, rfl, x0, x1, x2, hsl, hpl⟩ := (HL.out.nw hN).at I hlt'
      have hz : (I : Int) < (L : Int) := by omega
      have hAl : Nw wr (wr.alloc (.cells #[.slice pa l[I].p.length pc, .int .i64 l[I].b, .int .i64 l[I].n] 36)) := (Fr.refl _ _).alloc _
      rw [plA_drop _ l I hlt'] at hA
      have hpbl := hPI.lt
      have HPU := pplay_any (hPI.grow hAl (fun k hk => .inl hk)) (fun k hk => Nat.lt_of_lt_of_le hk HK.out) (fun k hk => by have := hAl.size; omega) (.slice pa l[I].p.length pc) l[I] (hsl.nw hAl) (Hcan.out.ok _ (List.getElem_mem hlt'))
      have hnw : ∀ {w'}, Fr (fun k => ¬ k < pb) (wr.alloc (.cells #[.slice pa l[I].p.length pc, .int .i64 l[I].b, .int .i64 l[I].n] 36)) w' → Nw w w' := fun h => Fr.then (hN.trans hAl) h (fun k hk => .inr (by have := HK.out; omega))
      cases hps : plS (pl ahead m) l[I] st with
      | error y =>
        have HC : Hid (Calls Try.prog 39 #[.pointer (some ⟨pb, 0, none⟩), .agg #[.slice pa l[I].p.length pc, .int .i64 l[I].b, .int .i64 l[I].n]] (wr.alloc (.cells #[.slice pa l[I].p.length pc, .int .i64 l[I].b, .int .i64 l[I].n] 36)) fun e w' => e = .returned (.int .i64 y) ∧ (¬ (y : Int) = 0) ∧ Hid (P (.returned (.tuple #[.slice none 0 0, .int .i64 y])) w')) := by
          refine HPU.mono ?_
          rw [hps]
          rintro e w' ⟨hF, rfl, hy⟩
          refine ⟨rfl, by omega, ?_⟩
          show P _ _
          rw [hps] at hA
          simp only at hA
          rw [HP.out, HPL.out, hA]
          exact Makd.none (hnw hF)
        clear HI HL HP Hcan HPL hA hPI HPU hnw hsl hpl hAl hps HK
        generalize l[I].p.length = pn at *
        generalize l[I].b = zb at *
        generalize l[I].n = zn at *
        go_wp2_with (first | (go_at_call 39; with_reducible refine (HC.out).mono ?_; rintro e w3 ⟨rfl, hy, HE⟩))
        exact HE.out
      | ok st' =>
        have HC : Hid (Calls Try.prog 39 #[.pointer (some ⟨pb, 0, none⟩), .agg #[.slice pa l[I].p.length pc, .int .i64 l[I].b, .int .i64 l[I].n]] (wr.alloc (.cells #[.slice pa l[I].p.length pc, .int .i64 l[I].b, .int .i64 l[I].n] 36)) fun e w' => e = .returned (.int .i64 0) ∧ Hid (∃ st, plA (pl ahead m) l [] = plA (pl ahead m) (l.drop (I + 1)) st ∧ PI w.heap.size pb (.slice aa A ac) ahead m st (fun k => k < pb) w' ∧ Nw w w')) := by
          refine HPU.mono ?_
          rw [hps]
          rintro e w' ⟨hF, rfl, hP'⟩
          rw [hps] at hA
          simp only at hA
          exact ⟨rfl, st', hA, hP', hnw hF⟩
        clear HI HL HP Hcan HPL hA hPI HPU hnw hsl hpl hAl hps HK
        generalize l[I].p.length = pn at *
        generalize l[I].b = zb at *
        generalize l[I].n = zn at *
        go_wp2_with (first | (go_at_call 39; with_reducible refine (HC.out).mono ?_; rintro e w3 ⟨rfl, HE⟩))
        go_roundg (L - (I + 1))
        all_goals (first | omega | exact ⟨I + 1, by omega, by omega, by first | rfl | (congr 1), HE.out⟩)
    · obtain rfl : I = L := by omega
      have hz : ¬ (I : Int) < (I : Int) := by omega
      obtain ⟨vo, k1, k2⟩ := hPI.out
      obtain ⟨a1, c1, rfl, _, _⟩ := k2.sl.form
      have HF' : Hid (P (.returned (.tuple #[.slice a1 st.length c1, .int .i64 0])) wr) := by
        show P _ _
        rw [List.drop_of_length_le (by rw [hln'.out]; exact Nat.le_refl _), plA] at hA
        rw [HP.out, HPL.out, hA]
        exact ⟨a1, c1, rfl, k2.more (fun g hg => .inl (.inl (Nat.lt_of_lt_of_le hg HK.out))), hN⟩
      clear HI HL HP hlt Hcan HPL hA hPI k2 HK
      generalize st.length = sl at *
      go_wp2
      exact HF'.out
end Go.Proofs.Ytpnacppmdlnjlaa
