import Derived.Test.YtpnacppmdlnjlaaEnJ
import Derived.Test.YtpnacppmdlnjlaaEnK
import Derived.Test.YtpnacppmdlnjlaaLzY
namespace Go.Proofs.Ytpnacppmdlnjlaa
open Go.RowKit
set_option linter.unusedVariables false
theorem cm_rep (x : By) : ∀ (a b : Nat), b ≤ a → cm (List.replicate a x) (List.replicate b x) = b
  | a, 0, _ => by cases a <;> rfl
  | 0, b + 1, h => by omega
  | a + 1, b + 1, h => by
    rw [List.replicate_succ, List.replicate_succ, cm, if_pos rfl, cm_rep x a b (by omega)]
theorem kat_rep (x : By) (n p : Nat) (h : p + 4 ≤ n) : kat (List.replicate n x) p = List.replicate 4 x := by
  unfold kat
  rw [List.drop_replicate, List.take_replicate]
  congr 1
  omega
/-- One byte many times over. -/
theorem small_enc (x : By) (n : Nat) (hn : 64 ≤ n) : EncTo (List.replicate n x) 0 0 [] ([⟨[x], 1, n - 6⟩], n - 5) := by
  have hl : (List.replicate n x).length = n := by simp
  have hf1 : fnd (List.replicate n x) 1 = some 0 := by
    unfold fnd
    have : (ups (List.replicate n x) 1).1 (kat (List.replicate n x) 1) = some 0 := by
      show (if kat (List.replicate n x) 1 = kat (List.replicate n x) 0 then some 0 else _) = some 0
      rw [kat_rep x n 1 (by omega), kat_rep x n 0 (by omega), if_pos rfl]
    rw [this]
    rfl
  have hcm : n - 6 = cm (((List.replicate n x).take ((List.replicate n x).length - 5)).drop (0 - 0)) (((List.replicate n x).take ((List.replicate n x).length - 5)).drop (1 - 0)) := by
    rw [hl, List.take_replicate, List.drop_replicate, List.drop_replicate, Nat.min_eq_left (by omega), cm_rep _ _ _ (by omega)]
    omega
  refine .skip (by rw [hl]; omega) rfl (.hit (f := 0) (k := 0) (n := n - 6) (by rw [hl]; omega) hf1 rfl hcm ?_)
  have e1 : ((List.replicate n x).drop 0).take (0 + 1 - 0 - 0) = [x] := by
    rw [List.drop_zero, List.take_replicate, Nat.min_eq_left (by omega)]
    rfl
  rw [e1, show 0 + 1 - 0 + (n - 6) = n - 5 by omega]
  exact .done (by rw [hl]; omega)
theorem small_len (x : By) (n : Nat) (hn : 64 ≤ n) (b : List By) (h : EncOf (List.replicate n x) [] b) : 0 < b.length ∧ b.length ≤ 32 + n / 200 := by
  obtain ⟨ms, e, rfl, h2, _⟩ := h
  have hT : win ([] : List By) ++ List.replicate n x = List.replicate n x := rfl
  rw [hT] at h2
  have := h2.uniq (small_enc x n hn)
  injection this with h3 h4
  subst h3 h4
  rw [hT, List.drop_replicate]
  unfold mk encL encS
  have e1 := ext_255 (n - 6 - 4)
  have e2 := (ext_255 (n - (n - 5))).2.1 (by omega)
  simp only [List.flatMap_cons, List.flatMap_nil, List.append_nil, List.length_append, List.length_cons, List.length_nil, List.length_replicate]
  have e3 := (ext_255 (0 + 1)).2.1 (by omega)
  rw [e2, e3]
  omega
theorem made_any (w : World) (n : Nat) (hn : n ≤ 100000000) : ∃ W, (Instr.makeSlice 22 (.int .i64 n) (.int .i64 n)).run Try.prog w = .ok (.slice (some ⟨w.heap.size, 0, none⟩) n n) W ∧ Ow w.heap.size (.slice (some ⟨w.heap.size, 0, none⟩) n n) (List.replicate n 0#8) W ∧ Nw w W := by
  obtain ⟨i, hi, hz, hs, hby⟩ := infoB
  have h := run_make (P := Try.prog) w 22 5 i _ Try.underlying22 hi hz .i64 .i64 n n (by omega) (by omega) (by rw [hby]; omega) (by omega)
  simp only [Int.toNat_natCast, hs, Nat.mul_one, madeB] at h
  refine ⟨_, h, ⟨List.replicate n 0#8, by simp, by simp, by simp, by simp; omega, ?_⟩, (Fr.refl _ _).alloc _⟩
  exact new_heap _ _
theorem rep_set (x : By) (n I : Nat) (h : I < n) : (List.replicate I x ++ List.replicate (n - I) 0#8).set I x = List.replicate (I + 1) x ++ List.replicate (n - (I + 1)) 0#8 := by
  rw [List.set_append_right _ _ (by simp)]
  simp only [List.length_replicate, Nat.sub_self]
  rw [show n - I = (n - (I + 1)) + 1 by omega, List.replicate_succ, List.set_cons_zero, List.replicate_succ', List.append_assoc]
  rfl
end Go.Proofs.Ytpnacppmdlnjlaa
