import Derived.Test.YtenkchhlaphocaaDoorNkJ
import Derived.Test.YtenkchhlaphocaaDoorNjP
namespace Go.Proofs.YtenkchhlaphocaaDoor
open Go.RowKit
set_option linter.unusedVariables false
/-! ### Find: as a function; the document's -/
def fndV (l : List Pr) (k : Bs) : Option Bs := l.foldl (fun a x => if x.1 = k then some x.2 else a) none
theorem fndV_snoc (l : List Pr) (x : Pr) (k : Bs) : fndV (l ++ [x]) k = if x.1 = k then some x.2 else fndV l k := by simp [fndV]
theorem fndV_take (l : List Pr) (k : Bs) (K : Nat) (h : K < l.length) : fndV (l.take (K + 1)) k = if l[K].1 = k then some l[K].2 else fndV (l.take K) k := by
  rw [List.take_add_one, List.getElem?_eq_getElem h, Option.toList_some, fndV_snoc]
def fdV (o : Option Bs) : Value := match o with
  | none => .tuple #[.string ⟨#[]⟩, .bool false]
  | some v => .tuple #[.string (str v), .bool true]
set_option maxHeartbeats 8000000 in
set_option maxRecDepth 100000 in
theorem rfind_any {X : Nat → Prop} (w : World) (va : Value) (l : List Pr) (k : Bs) (hl : SlR RP X va l w) : Calls Tryd.prog 14 #[va, .string (str k)] w fun e w' => e = .returned (fdV (fndV l k)) ∧ Nw w w' := by
  obtain ⟨P, hP⟩ : ∃ P : Ending → World → Prop, P = fun e w' => e = .returned (fdV (fndV l k)) ∧ Nw w w' := ⟨_, rfl⟩
  rw [← hP]
  have HF : Hid (∀ o V, fndV l k = o → Nw w V → P (.returned (fdV o)) V) := fun B V h1 h2 => by rw [hP, h1]; exact ⟨rfl, h2⟩
  clear hP
  obtain ⟨a1, c1, rfl, k1, k2, _⟩ := hl.form
  have HI1 := tHid hl
  clear hl
  go_enter Tryd.func14, Tryd.ntmps14
  go_upto_region 2 with fail
  go_loopg [6] l.length (fun kx i wr => ∃ (J : Nat) (x : Int), J ≤ l.length ∧ J ≤ kx ∧ i = .int .i64 x ∧ x + 1 = (J : Int) ∧ Hid (Nw w wr ∧ fndV l k = fndV (l.take J) k))
  case atStart => exact ⟨l.length, _, Nat.le_refl _, Nat.le_refl _, rfl, by omega, Fr.refl _ _, by rw [List.take_length]⟩
  case round =>
    obtain ⟨J, x, hJ, hkx, rfl, hx, HI⟩ := hrel
    obtain ⟨hN, hf⟩ := HI.out
    cases J with
    | zero =>
      obtain rfl : x = -1 := by omega
      have HF2 : Hid (P (.returned (.tuple #[.string ⟨#[]⟩, .bool false])) wr) := HF.out none wr hf hN
      clear HF HI hN hf
      go_wp2_with fail
      first | exact HF2.out | (go_ret; exact HF2.out)
    | succ K =>
      obtain rfl : x = (K : Int) := by omega
      have hlt : K < l.length := by omega
      obtain ⟨g1, o1, rfl, _, x0, x1⟩ := rp_at (HI1.out.nw hN) K hlt
      have b0 := str_beq l[K].1 k
      have hz : (K : Int) < (l.length : Int) := by omega
      rw [fndV_take l k K hlt] at hf
      by_cases heq : l[K].1 = k
      · rw [if_pos heq] at hf
        rw [decide_eq_true heq] at b0
        have HF2 : Hid (P (.returned (.tuple #[.string (str l[K].2), .bool true])) wr) := HF.out (some l[K].2) wr hf hN
        clear HF HI hN hf heq
        generalize str l[K].1 = s1 at *
        generalize str l[K].2 = s2 at *
        generalize str k = sk at *
        go_wp2_with fail
        first | exact HF2.out | (go_ret; exact HF2.out)
      · rw [if_neg heq] at hf
        rw [decide_eq_false heq] at b0
        have HI2 : Hid (Nw w wr ∧ fndV l k = fndV (l.take K) k) := ⟨hN, hf⟩
        clear HF HI hN hf heq
        generalize str l[K].1 = s1 at *
        generalize str l[K].2 = s2 at *
        generalize str k = sk at *
        go_wp2_with fail
        go_roundg K
        case measure => omega
        case rel => exact ⟨K, _, by omega, Nat.le_refl _, rfl, by omega, HI2⟩
end Go.Proofs.YtenkchhlaphocaaDoor
