import Derived.Test.YtffhpoilifgcdaaDoorVbn
namespace Go.Proofs.YtffhpoilifgcdaaDoor
open Go.RowKit
set_option linter.unusedVariables false
set_option maxHeartbeats 8000000 in
set_option maxRecDepth 100000 in
theorem rnumber_any (w : World) (a : Option Addr) (n c : Nat) (b : List By) (hb : Old w (.slice a n c) b) (hbl : n ≤ 140737488351232) :
    Calls Tryd.prog 49 #[.slice a n c] w fun e w' => e = .returned (numA b) ∧ Nw w w' := by
  obtain ⟨P, hP⟩ : ∃ P : Ending → World → Prop, P = fun e w' => e = .returned (numA b) ∧ Nw w w' := ⟨_, rfl⟩
  rw [← hP]
  have HF : Hid (∀ W, Nw w W → P (.returned (numA b)) W) := fun W hW => by rw [hP]; exact ⟨rfl, hW⟩
  have HO : Hid (Calls Tryd.prog 60 #[.slice a n c] w fun e w' => e = .returned (.tuple #[.int .i64 (octN b : Nat), .int .i64 (octE b : Nat)]) ∧ w = w') := roctal_any w a n c b hb
  have HB : Hid (Calls Tryd.prog 59 #[.slice a n c] w fun e w' => e = .returned (.tuple #[.int .i64 (binN b), .int .i64 (binE b : Nat)]) ∧ Hid (Nw w w')) := rbinary_any w a n c b hb hbl
  clear hP
  obtain ⟨hbn, k1, k2⟩ := sl_len hb
  cases b with
  | nil =>
    obtain rfl : n = 0 := hbn.symm
    have e : numA [] = .tuple #[.int .i64 (octN [] : Nat), .int .i64 (octE [] : Nat)] := by unfold numA; rw [if_neg (by decide)]; rfl
    rw [e] at HF
    have HF2 := tHid (HF.out w (Fr.refl _ _))
    clear hb e HB HF
    generalize octN [] = N at *
    generalize octE [] = E at *
    go_enter Tryd.func49, Tryd.ntmps49
    go_wp2_with (first | (go_at_call 60; with_reducible refine HO.out.mono ?_; rintro e w1 ⟨rfl, rfl⟩))
    exact HF2.out
  | cons x l =>
    obtain ⟨g, o, rfl, hn, hc, _, x0, _, _⟩ := sl_cons hb
    have z1 : (0 : Int) < (n : Int) := by omega
    have z2 : 0 < n := by omega
    by_cases hx : 128 ≤ x.toNat
    · have e1 : (128 : Int) ≤ (x.toNat : Int) := by omega
      have e2 : decide ((128 : Int) ≤ (x.toNat : Int)) = true := decide_eq_true e1
      have e : numA (x :: l) = .tuple #[.int .i64 (binN (x :: l)), .int .i64 (binE (x :: l) : Nat)] := by unfold numA; rw [if_pos (by exact hx)]; rfl
      rw [e] at HF
      clear hb e HO hn hbn hx
      generalize binN (x :: l) = N at *
      generalize binE (x :: l) = E at *
      generalize x.toNat = xx at *
      go_enter Tryd.func49, Tryd.ntmps49
      go_wp2_with (first | (go_at_call 59; with_reducible refine HB.out.mono ?_; rintro e w1 ⟨rfl, H1⟩))
      exact HF.out _ H1.out
    · have e1 : ¬ (128 : Int) ≤ (x.toNat : Int) := by omega
      have e2 : decide ((128 : Int) ≤ (x.toNat : Int)) = false := decide_eq_false e1
      have e : numA (x :: l) = .tuple #[.int .i64 (octN (x :: l) : Nat), .int .i64 (octE (x :: l) : Nat)] := by unfold numA; rw [if_neg (by exact hx)]; rfl
      rw [e] at HF
      have HF2 := tHid (HF.out w (Fr.refl _ _))
      clear hb e HB hn hbn hx HF
      generalize octN (x :: l) = N at *
      generalize octE (x :: l) = E at *
      generalize x.toNat = xx at *
      go_enter Tryd.func49, Tryd.ntmps49
      go_wp2_with (first | (go_at_call 60; with_reducible refine HO.out.mono ?_; rintro e w1 ⟨rfl, rfl⟩))
      exact HF2.out
theorem txt_none (b : List By) (h : b.all nz = true) : txt b = b := by
  have := (tw_all b [] nz h (fun x hx => by cases hx)).1
  rw [List.append_nil] at this
  exact this
end Go.Proofs.YtffhpoilifgcdaaDoor
