import Derived.Test.YtenkchhlaphocaaDoorNjL
namespace Go.Proofs.YtenkchhlaphocaaDoor
open Go.RowKit
set_option linter.unusedVariables false
/-! ### The document's record -/
set_option maxHeartbeats 1000000 in
set_option maxRecDepth 100000 in
theorem rdig_any (y : Nat) (w : World) : Calls Tryd.prog 39 #[.int .u8 y] w fun e w' => e = .returned (.bool (decide (48 ≤ y ∧ y ≤ 57))) ∧ w = w' := by
  obtain ⟨P, hP⟩ : ∃ P : Ending → World → Prop, P = fun e w' => e = .returned (.bool (decide (48 ≤ y ∧ y ≤ 57))) ∧ w = w' := ⟨_, rfl⟩
  rw [← hP]
  have HF : Hid (P (.returned (.bool (decide (48 ≤ y ∧ y ≤ 57)))) w) := by rw [hP]; exact ⟨rfl, rfl⟩
  clear hP
  by_cases h1 : 48 ≤ y
  · have z1 : decide ((48 : Int) ≤ (y : Int)) = true := decide_eq_true (by omega)
    by_cases h2 : y ≤ 57
    · have z2 : decide ((y : Int) ≤ 57) = true := decide_eq_true (by omega)
      rw [decide_eq_true ⟨h1, h2⟩] at HF
      clear h1 h2
      go_enter Tryd.func39, Tryd.ntmps39
      go_wp2_with fail
      first | exact HF.out | (go_ret; exact HF.out)
    · have z2 : decide ((y : Int) ≤ 57) = false := decide_eq_false (by omega)
      rw [decide_eq_false (fun h => h2 h.2)] at HF
      clear h1 h2
      go_enter Tryd.func39, Tryd.ntmps39
      go_wp2_with fail
      first | exact HF.out | (go_ret; exact HF.out)
  · have z1 : decide ((48 : Int) ≤ (y : Int)) = false := decide_eq_false (by omega)
    rw [decide_eq_false (fun h => h1 h.1)] at HF
    clear h1
    go_enter Tryd.func39, Tryd.ntmps39
    go_wp2_with fail
    first | exact HF.out | (go_ret; exact HF.out)
theorem eqAt_app (k r : Bs) (h : 61#8 ∉ k) : eqAt (k ++ 61#8 :: r) = (k.length : Int) := by
  rcases eqAt_cut (k ++ 61#8 :: r) with ⟨h1, _⟩ | ⟨x, h1, h2, _⟩
  · rw [cutE_app k r h] at h1; cases h1
  · rw [cutE_app k r h] at h1; injection h1 with h1; rw [h2, ← h1]
theorem eqAt_no (l : Bs) (h : 61#8 ∉ l) : eqAt l = -1 := by
  rcases eqAt_cut l with ⟨_, h1, _⟩ | ⟨x, h1, h2, h3, _⟩
  · exact h1
  · exact absurd (by rw [h3]; simp) h
theorem nth_eq (y : By) (k : Nat) (hk : k < 256) : ((y.toNat : Int) == (k : Int)) = decide (y = BitVec.ofNat 8 k) := by
  by_cases h : y = BitVec.ofNat 8 k
  · subst h
    rw [BitVec.toNat_ofNat, Nat.mod_eq_of_lt hk]
    simp
  · rw [decide_eq_false h, beq_eq_false_iff_ne]
    intro e
    apply h
    apply BitVec.eq_of_toNat_eq
    rw [BitVec.toNat_ofNat, Nat.mod_eq_of_lt hk]
    omega
set_option maxHeartbeats 4000000 in
set_option maxRecDepth 100000 in
theorem req_any (l : Bs) (hl : l.length ≤ 140737488351232) (w : World) : Calls Tryd.prog 30 #[.string (str l)] w fun e w' => e = .returned (.int .i64 (eqAt l)) ∧ w = w' := by
  obtain ⟨P, hP⟩ : ∃ P : Ending → World → Prop, P = fun e w' => e = .returned (.int .i64 (eqAt l)) ∧ w = w' := ⟨_, rfl⟩
  rw [← hP]
  have HF : Hid (∀ v : Int, eqAt l = v → P (.returned (.int .i64 v)) w) := fun v hv => by rw [hP]; exact ⟨by rw [hv], rfl⟩
  clear hP
  have hsz := str_size l
  have hget : Hid (∀ j (h : j < (str l).size) (h' : j < l.length), ((str l)[j]'h).toNat = (l[j]'h').toNat) := fun j h h' => str_get l j h
  generalize str l = s at *
  go_enter Tryd.func30, Tryd.ntmps30
  go_upto_region 2 with fail
  go_loopg [3] l.length (fun kx v wr => ∃ I : Nat, I ≤ l.length ∧ l.length - I ≤ kx ∧ v = .int .i64 I ∧ wr = w ∧ Hid (61#8 ∉ l.take I))
  case atStart => exact ⟨0, by omega, by omega, rfl, rfl, by show ¬ _; simp⟩
  case round =>
    obtain ⟨I, hI, hkx, rfl, hw, HI⟩ := hrel
    have hw' := hw.symm
    subst hw'
    clear hw
    by_cases hlt : I < l.length
    · have hlt' : I < s.size := by omega
      have hg := hget.out I hlt' hlt
      have hq := nth_eq l[I] 61 (by decide)
      have hsp : l = l.take I ++ l[I] :: l.drop (I + 1) := by
        conv => lhs; rw [← List.take_append_drop I l, List.drop_eq_getElem_cons hlt]
      by_cases hx : l[I] = 61#8
      · rw [decide_eq_true hx] at hq
        rw [hx] at hsp
        have he := eqAt_app (l.take I) (l.drop (I + 1)) HI.out
        rw [← hsp, List.length_take, Nat.min_eq_left (by omega)] at he
        have HF2 := tHid (HF.out _ he)
        clear HF HI hx hsp he hget
        generalize l[I].toNat = x at *
        go_wp2_with fail
        first | exact HF2.out | (go_ret; exact HF2.out)
      · rw [decide_eq_false hx] at hq
        have HI2 : Hid (61#8 ∉ l.take (I + 1)) := by
          show ¬ _
          rw [List.take_add_one, List.getElem?_eq_getElem hlt]
          intro hm
          rcases List.mem_append.1 hm with h | h
          · exact HI.out h
          · simp at h; exact hx h.symm
        clear HF HI hx hsp hget
        generalize l[I].toNat = x at *
        go_wp2_with fail
        go_roundg (l.length - (I + 1))
        case measure => omega
        case rel => exact ⟨I + 1, by omega, by omega, by first | rfl | (congr 1), rfl, HI2⟩
    · have hno := HI.out
      rw [List.take_of_length_le (by omega)] at hno
      have HF2 := tHid (HF.out _ (eqAt_no l hno))
      obtain rfl : I = l.length := by omega
      clear HF HI hno hget
      go_wp2_with fail
      first | exact HF2.out | (go_ret; exact HF2.out)
set_option maxHeartbeats 4000000 in
set_option maxRecDepth 100000 in
theorem rzero_any (l : Bs) (hl : l.length ≤ 140737488351232) (w : World) : Calls Tryd.prog 31 #[.string (str l)] w fun e w' => e = .returned (.bool (decide (0#8 ∈ l))) ∧ w = w' := by
  obtain ⟨P, hP⟩ : ∃ P : Ending → World → Prop, P = fun e w' => e = .returned (.bool (decide (0#8 ∈ l))) ∧ w = w' := ⟨_, rfl⟩
  rw [← hP]
  have HF : Hid (∀ v : Bool, decide (0#8 ∈ l) = v → P (.returned (.bool v)) w) := fun v hv => by rw [hP]; exact ⟨by rw [hv], rfl⟩
  clear hP
  have hsz := str_size l
  have hget : Hid (∀ j (h : j < (str l).size) (h' : j < l.length), ((str l)[j]'h).toNat = (l[j]'h').toNat) := fun j h h' => str_get l j h
  generalize str l = s at *
  go_enter Tryd.func31, Tryd.ntmps31
  go_upto_region 2 with fail
  go_loopg [3] l.length (fun kx v wr => ∃ I : Nat, I ≤ l.length ∧ l.length - I ≤ kx ∧ v = .int .i64 I ∧ wr = w ∧ Hid (0#8 ∉ l.take I))
  case atStart => exact ⟨0, by omega, by omega, rfl, rfl, by show ¬ _; simp⟩
  case round =>
    obtain ⟨I, hI, hkx, rfl, hw, HI⟩ := hrel
    have hw' := hw.symm
    subst hw'
    clear hw
    by_cases hlt : I < l.length
    · have hlt' : I < s.size := by omega
      have hg := hget.out I hlt' hlt
      have hq := nth_eq l[I] 0 (by decide)
      by_cases hx : l[I] = 0#8
      · rw [decide_eq_true hx] at hq
        have HF2 := tHid (HF.out true (decide_eq_true (by rw [← hx]; exact List.getElem_mem hlt)))
        clear HF HI hx hget
        generalize l[I].toNat = x at *
        go_wp2_with fail
        first | exact HF2.out | (go_ret; exact HF2.out)
      · rw [decide_eq_false hx] at hq
        have HI2 : Hid (0#8 ∉ l.take (I + 1)) := by
          show ¬ _
          rw [List.take_add_one, List.getElem?_eq_getElem hlt]
          intro hm
          rcases List.mem_append.1 hm with h | h
          · exact HI.out h
          · simp at h; exact hx h.symm
        clear HF HI hx hget
        generalize l[I].toNat = x at *
        go_wp2_with fail
        go_roundg (l.length - (I + 1))
        case measure => omega
        case rel => exact ⟨I + 1, by omega, by omega, by first | rfl | (congr 1), rfl, HI2⟩
    · have hno := HI.out
      rw [List.take_of_length_le (by omega)] at hno
      have HF2 := tHid (HF.out false (decide_eq_false hno))
      obtain rfl : I = l.length := by omega
      clear HF HI hno hget
      go_wp2_with fail
      first | exact HF2.out | (go_ret; exact HF2.out)
end Go.Proofs.YtenkchhlaphocaaDoor
