import Derived.Test.YtffhpoilifgcdaaDoorVae
import Derived.Test.YtffhpoilifgcdaaDoorVaf
import Derived.Lib.BytesEntry
import Derived.Lib.MinMax
namespace Go.Proofs.YtffhpoilifgcdaaDoor
open Go.RowKit
set_option linter.unusedVariables false
/-- What Number answers. -/
def numA (b : List By) : Value := if 128 ≤ (b.headD 0).toNat then binA b else octV b
theorem octV_nil : octV [] = .tuple #[.int .i64 0, .int .i64 0] := by
  refine octV_of [] 0 0 ?_ ?_
  · unfold octN; rw [if_pos (by rfl)]; split <;> rfl
  · unfold octE; rw [if_pos (by rfl), if_pos (by show v8 0 [] ≤ mx; rw [v8_nil]; exact Nat.zero_le _)]
def octQ (b : List By) : Value × Value := (.int .i64 (octN b : Nat), .int .i64 (octE b : Nat))
set_option maxHeartbeats 8000000 in
set_option maxRecDepth 100000 in
theorem fnumber_any {X : Nat → Prop} (w : World) (a : Option Addr) (n c : Nat) (b : List By) (hb : Sl X (.slice a n c) b w) :
    Calls Tryd.prog 48 #[.slice a n c] w fun e w' => e = .returned (numA b) ∧ Nw w w' := by
  obtain ⟨P, hP⟩ : ∃ P : Ending → World → Prop, P = fun e w' => e = .returned (numA b) ∧ Nw w w' := ⟨_, rfl⟩
  rw [← hP]
  have HF : Hid (∀ W, Nw w W → P (.returned (numA b)) W) := fun W hW => by rw [hP]; exact ⟨rfl, hW⟩
  have HO : Hid (Calls Tryd.prog 58 #[.slice a n c] w fun e w' => e = .returned (.tuple #[.int .i64 (octN b : Nat), .int .i64 (octE b : Nat)]) ∧ Hid (Nw w w')) := octal_any w a n c b hb
  have HB : Hid (Calls Tryd.prog 57 #[.slice a n c] w fun e w' => e = .returned (.tuple #[.int .i64 (binN b), .int .i64 (binE b : Nat)]) ∧ w = w') := binary_any w a n c b hb
  clear hP
  obtain ⟨hbn, k1, k2⟩ := sl_len hb
  cases b with
  | nil =>
    obtain rfl : n = 0 := hbn.symm
    have e : numA [] = .tuple #[.int .i64 (octN [] : Nat), .int .i64 (octE [] : Nat)] := by unfold numA; rw [if_neg (by decide)]; rfl
    rw [e] at HF
    clear hb e HB
    generalize octN [] = N at *
    generalize octE [] = E at *
    go_enter Tryd.func48, Tryd.ntmps48
    go_wp2_with (first | (go_at_call 58; with_reducible refine HO.out.mono ?_; rintro e w1 ⟨rfl, H1⟩))
    exact HF.out _ H1.out
  | cons x l =>
    obtain ⟨g, o, rfl, hn, hc, _, x0, _, _⟩ := sl_cons hb
    have z1 : (0 : Int) < (n : Int) := by omega
    have z2 : 0 < n := by omega
    by_cases hx : 128 ≤ x.toNat
    · have e1 := and128 x
      rw [if_pos hx] at e1
      have e : numA (x :: l) = .tuple #[.int .i64 (binN (x :: l)), .int .i64 (binE (x :: l) : Nat)] := by unfold numA; rw [if_pos (by exact hx)]; rfl
      rw [e] at HF
      have HF2 := tHid (HF.out w (Fr.refl _ _))
      clear hb e HO hn hbn hx HF
      generalize binN (x :: l) = N at *
      generalize binE (x :: l) = E at *
      generalize x.toNat = xx at *
      go_enter Tryd.func48, Tryd.ntmps48
      go_wp2_with (first | (go_at_call 57; with_reducible refine HB.out.mono ?_; rintro e w1 ⟨rfl, rfl⟩))
      exact HF2.out
    · have e1 := and128 x
      rw [if_neg hx] at e1
      have e : numA (x :: l) = .tuple #[.int .i64 (octN (x :: l) : Nat), .int .i64 (octE (x :: l) : Nat)] := by unfold numA; rw [if_neg (by exact hx)]; rfl
      rw [e] at HF
      clear hb e HB hn hbn hx
      generalize octN (x :: l) = N at *
      generalize octE (x :: l) = E at *
      generalize x.toNat = xx at *
      go_enter Tryd.func48, Tryd.ntmps48
      go_wp2_with (first | (go_at_call 58; with_reducible refine HO.out.mono ?_; rintro e w1 ⟨rfl, H1⟩))
      exact HF.out _ H1.out
/-! ### Texts -/
def nz (x : By) : Bool := decide (x ≠ 0#8)
/-- The bytes up to the first 0. -/
def txt (b : List By) : List By := b.takeWhile nz
/-- Where the first 0 stands, or -1. -/
def ixz (l : List By) : Int := Lib.indexByte (l.map u8) 0
theorem ixz_cons (x : By) (l : List By) : ixz (x :: l) = if x = 0#8 then 0 else if ixz l = -1 then -1 else ixz l + 1 := by
  unfold ixz
  rw [List.map_cons, Lib.indexByte]
  by_cases h : x = 0#8
  · subst h; rw [if_pos (by decide), if_pos rfl]
  · have : (u8 x == 0) = false := by
      rw [beq_eq_false_iff_ne]
      intro e
      exact h (u8_inj x 0#8 e)
    rw [this, if_neg h]
    simp only [Bool.false_eq_true, ↓reduceIte, beq_iff_eq]
theorem ixz_txt (l : List By) : (ixz l = -1 ∧ txt l = l) ∨ ∃ k : Nat, ixz l = k ∧ k < l.length ∧ txt l = l.take k := by
  induction l with
  | nil => exact .inl ⟨rfl, rfl⟩
  | cons x l ih =>
    rw [ixz_cons]
    by_cases h : x = 0#8
    · right
      refine ⟨0, by rw [if_pos h]; rfl, by simp, ?_⟩
      unfold txt
      rw [List.takeWhile_cons, if_neg (by rw [h]; decide)]; rfl
    · have hx : nz x = true := decide_eq_true h
      have ht : txt (x :: l) = x :: txt l := by unfold txt; rw [List.takeWhile_cons, if_pos hx]
      rw [if_neg h, ht]
      rcases ih with ⟨e1, e2⟩ | ⟨k, e1, e2, e3⟩
      · left; rw [if_pos e1, e2]; exact ⟨rfl, rfl⟩
      · right
        refine ⟨k + 1, ?_, by simp; omega, by rw [e3]; rfl⟩
        rw [if_neg (by omega), e1]; omega
theorem run_ixNil (w : World) (A : Addr) (c : Nat) (cv : Int) : (Extern.BytealgIndexByte.indexByte #[.slice (some A) 0 c, .int .u8 cv]).run Tryd.prog w = .ok (.int .i64 (-1)) w := by
  have hs := Lib.run_indexByteString (P := Tryd.prog) .empty cv w
  exact hs
end Go.Proofs.YtffhpoilifgcdaaDoor
