import Derived.Test.YtdeefemeiggolaaXxVq
import Derived.Test.YtdeefemeiggolaaFkBq
namespace Go.Proofs.Ytdeefemeiggolaa
open Go.RowKit
set_option linter.unusedVariables false
/-! ### One byte changed: another sum -/
theorem set_ne {l : List By} {j : Nat} {z : By} (hj : j < l.length) (hz : l[j] ≠ z) : l ≠ l.set j z := fun h => by
  have h1 : l[j]? = (l.set j z)[j]? := by rw [← h]
  rw [List.getElem?_set_self hj, List.getElem?_eq_getElem hj] at h1
  exact hz (Option.some.inj h1)
theorem sm_set (l : List By) (j : Nat) (hj : j < l.length) (z : By) (hz : l[j] ≠ z) : sm (l.set j z) ≠ sm l := by
  intro h
  have h' : s32 0#32 (l.set j z) = s32 0#32 l := BitVec.eq_of_toNat_eq h
  by_cases hw : j < l.length / 4 * 4
  · obtain ⟨n, hn⟩ : ∃ n, j / 4 * 4 = n := ⟨_, rfl⟩
    have h4 : n + 4 ≤ l.length := by omega
    obtain ⟨A, hA⟩ : ∃ A, l.take n = A := ⟨_, rfl⟩
    obtain ⟨p, hp⟩ : ∃ p, (l.drop n).take 4 = p := ⟨_, rfl⟩
    obtain ⟨C, hC⟩ : ∃ C, (l.drop n).drop 4 = C := ⟨_, rfl⟩
    have hAl : A.length = n := by rw [← hA, List.length_take]; omega
    have hpl : p.length = 4 := by rw [← hp, List.length_take, List.length_drop]; omega
    have hl : l = A ++ p ++ C := by rw [← hA, ← hp, ← hC, List.append_assoc, List.take_append_drop, List.take_append_drop]
    have hjp : j - n < p.length := by omega
    have hset : l.set j z = A ++ p.set (j - n) z ++ C := by
      conv => lhs; rw [hl]
      rw [List.append_assoc, List.set_append_right _ _ (by omega), hAl, List.set_append_left _ _ hjp, List.append_assoc]
    have hpj : p[j - n] ≠ z := by
      have e1 : l[j]? = some p[j - n] := by
        rw [hl, List.append_assoc, List.getElem?_append_right (by omega), hAl, List.getElem?_append_left hjp, List.getElem?_eq_getElem hjp]
      rw [List.getElem?_eq_getElem hj] at e1
      rw [← Option.some.inj e1]; exact hz
    rw [hset] at h'
    rw [hl] at h'
    exact s32_word 0#32 A p (p.set (j - n) z) C (by rw [hAl]; omega) hpl (by rw [List.length_set]; exact hpl) (set_ne hjp hpj) h'.symm
  · obtain ⟨A, hA⟩ : ∃ A, l.take j = A := ⟨_, rfl⟩
    obtain ⟨C, hC⟩ : ∃ C, l.drop (j + 1) = C := ⟨_, rfl⟩
    have hAl : A.length = j := by rw [← hA, List.length_take]; omega
    have hl : l = A ++ [l[j]] ++ C := by
      rw [← hA, ← hC, List.append_assoc]
      conv => lhs; rw [← List.take_append_drop j l, List.drop_eq_getElem_cons hj]
      rfl
    have hset : l.set j z = A ++ [z] ++ C := by
      rw [List.set_eq_take_append_cons_drop, if_pos hj, hA, hC]
      simp
    generalize l[j] = y at *
    have hlen : (A ++ [y] ++ C).length = l.length := by rw [← hl]
    rw [hset] at h'
    rw [hl] at h'
    exact s32_byte 0#32 A [y] [z] C rfl rfl (by rw [hlen, hAl]; omega) (fun e => hz (by injection e)) h'.symm
/-- A number's byte changed: another number. -/
theorem le_set (l : List By) (j : Nat) (hj : j < l.length) (z : By) (hz : l[j] ≠ z) : le (l.set j z) ≠ le l := by
  intro h
  have h1 := lows_le l l.length rfl
  have h2 := lows_le (l.set j z) l.length (by rw [List.length_set])
  rw [h, h1] at h2
  exact set_ne hj hz h2
end Go.Proofs.Ytdeefemeiggolaa
