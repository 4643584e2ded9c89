import Derived.Test.YtenkchhlaphocaaGreatDoorNjT
import Derived.Test.YtenkchhlaphocaaGreatDoorNjK
namespace Go.Proofs.YtenkchhlaphocaaGreatDoor
open Go.RowKit
set_option linter.unusedVariables false
/-! ### digits, Number, PutNumber -/
def DG : ByteArray := ⟨#[48, 49, 50, 51, 52, 53, 54, 55, 56, 57]⟩
def DS : Array Value := Lib.setCells DG.data.toList
theorem ds_size : DS.size = 256 := Lib.setCells_size _
theorem q_ds : ∀ (x : By), DG.data.toList.contains (UInt8.ofBitVec x) = decide (48 ≤ x.toNat ∧ x.toNat ≤ 57) := by decide +kernel
theorem ds_at (x : By) : DS[x.toNat]? = some (.bool (decide (isD x))) := by
  unfold DS
  have h := Lib.setCells_at DG.data.toList (UInt8.ofBitVec x)
  have e : (UInt8.ofBitVec x).toNat = x.toNat := rfl
  rw [e] at h
  rw [h, q_ds]
  rfl
theorem ds_one : DS.all (·.oneCell') = true := Lib.setCells_one _
theorem ds_info : (Tryz.prog.info? 92).map (·.size) = some DS.size := by rw [ds_size]; kernel_rfl
theorem dmk_any (w : World) : Calls Tryz.prog 55 #[.string DG] w fun e w' => e = .returned (.tuple #[.agg DS, .bool true]) ∧ w' = w.alloc (.cells DS 92) :=
  sh_strings_makeASCIISet (fun w => (zero_of_info (P := Tryz.prog) (t := 92) (v := .agg (Array.replicate 256 (.bool false))) (n := 256) (by kernel_rfl)).1 w) DG w (by decide) (fun j b hb => by
    have hm := List.mem_of_getElem? hb
    have : ∀ b ∈ DG.data.toList, b.toNat < 128 := by decide
    exact this b hm)
set_option maxHeartbeats 2000000 in
set_option maxRecDepth 100000 in
theorem dHas_any (b : Nat) (x : By) (w : World) (hw : w.heap[b]? = some (.cells DS 92)) :
    Calls Tryz.prog 81 #[.pointer (some ⟨b, 0, none⟩), .int .u8 x.toNat] w fun e w' => e = .returned (.bool (decide (isD x))) ∧ w = w' := by
  obtain ⟨P, hP⟩ : ∃ P : Ending → World → Prop, P = fun e w' => e = .returned (.bool (decide (isD x))) ∧ w = w' := ⟨_, rfl⟩
  rw [← hP]
  have HF : Hid (P (.returned (.bool (decide (isD x)))) w) := by rw [hP]; exact ⟨rfl, rfl⟩
  clear hP
  have hc : w.cell? ⟨b, x.toNat, none⟩ = some (.bool (decide (isD x))) := by
    have := ds_at x
    simp only [World.cell?, hw]
    simpa using this
  have hx256 : (x.toNat : Int) < 256 := by have := x.isLt; omega
  clear hw
  generalize decide (isD x) = v at *
  generalize x.toNat = y at *
  go_enter Tryz.func81, Tryz.ntmps81
  go_wp2
  exact HF.out
def dW (l : Bs) : Bs := l.dropWhile (fun c => decide (isD c))
theorem dW_all (l : Bs) : decide (dW l = []) = allD l := by
  induction l with
  | nil => rfl
  | cons c r ih =>
    unfold dW at ih ⊢
    rw [allD_cons, List.dropWhile_cons]
    cases hc : decide (isD c) with
    | true => rw [if_pos rfl, ih, Bool.true_and]
    | false => rw [if_neg (by simp), decide_eq_false (by simp), Bool.false_and]
theorem str_tail (c : By) (r : Bs) : (str (c :: r)).extract 1 (str (c :: r)).size = str r := str_suf [c] r
set_option maxHeartbeats 4000000 in
set_option maxRecDepth 100000 in
theorem tla_any (l : Bs) (hl : l.length ≤ 140737488351232) (b : Nat) (w : World) (hw : w.heap[b]? = some (.cells DS 92)) : Calls Tryz.prog 56 #[.string (str l), .pointer (some ⟨b, 0, none⟩)] w fun e w' => e = .returned (.string (str (dW l))) ∧ w = w' := by
  obtain ⟨P, hP⟩ : ∃ P : Ending → World → Prop, P = fun e w' => e = .returned (.string (str (dW l))) ∧ w = w' := ⟨_, rfl⟩
  rw [← hP]
  have HF : Hid (∀ m, dW l = m → P (.returned (.string (str m))) w) := fun m hm => by rw [hP, hm]; exact ⟨rfl, rfl⟩
  clear hP
  have HC := tHid (fun x : By => dHas_any b x w hw)
  clear hw
  go_enter Tryz.func56, Tryz.ntmps56
  go_upto_region 1 with fail
  go_loopg [0] l.length (fun kx v wr => ∃ l' : Bs, l'.length ≤ kx ∧ l'.length ≤ 140737488351232 ∧ v = .string (str l') ∧ wr = w ∧ Hid (dW l = dW l'))
  case atStart => exact ⟨l, Nat.le_refl _, hl, rfl, rfl, rfl⟩
  case round =>
    obtain ⟨l', hkx, hl', rfl, hw, HD⟩ := hrel
    have hw' := hw.symm
    subst hw'
    clear hw
    have hsz := str_size l'
    cases l' with
    | nil =>
      have HF2 := tHid (HF.out [] HD.out)
      clear HF HD
      have hsz : (str []).size = 0 := rfl
      generalize str [] = s at *
      go_wp2_with fail
      first | exact HF2.out | (go_ret; exact HF2.out)
    | cons c r =>
      have hd := HD.out
      have HCx := tHid (HC.out c)
      have hg := str_get (c :: r) 0 (by rw [hsz]; simp)
      rw [List.getElem_cons_zero] at hg
      have hx := str_tail c r
      rw [List.length_cons] at hsz hkx hl'
      have z1 : (0 : Int) < ((str (c :: r)).size : Int) := by omega
      have z2 : (1 : Int) ≤ ((str (c :: r)).size : Int) := by omega
      have z3 : 1 ≤ (str (c :: r)).size := by omega
      have z4 : (str (c :: r)).size ≤ 140737488351232 := by omega
      unfold dW at hd
      rw [List.dropWhile_cons] at hd
      cases hc : decide (isD c) with
      | true =>
        rw [hc, if_pos rfl] at hd
        rw [hc] at HCx
        have HD2 : Hid (dW l = dW r) := hd
        clear HF HD hd hc HC
        generalize str (c :: r) = s at *
        generalize c.toNat = y at *
        go_wp2_with (first | (go_at_call 81; with_reducible refine HCx.out.mono ?_; rintro e w1 ⟨rfl, rfl⟩))
        go_roundg r.length
        case measure => omega
        case rel => exact ⟨r, Nat.le_refl _, by omega, by first | rfl | (rw [← hx, hsz]), rfl, HD2⟩
      | false =>
        rw [hc, if_neg (by simp)] at hd
        rw [hc] at HCx
        have HF2 := tHid (HF.out (c :: r) hd)
        clear HF HD hd hc HC
        generalize str (c :: r) = s at *
        generalize c.toNat = y at *
        go_wp2_with (first | (go_at_call 81; with_reducible refine HCx.out.mono ?_; rintro e w1 ⟨rfl, rfl⟩))
        first | exact HF2.out | (go_ret; exact HF2.out)
theorem dg_size : DG.size = 10 := rfl
theorem dg_emp : (DG.toList == ([] : List UInt8)) = false := by decide +kernel
theorem dg_emp2 : DG.toList.isEmpty = false := by decide +kernel
set_option maxHeartbeats 4000000 in
set_option maxRecDepth 100000 in
theorem tl_any (l : Bs) (hl : l.length ≤ 140737488351232) (w : World) : Calls Tryz.prog 40 #[.string (str l), .string DG] w fun e w' => e = .returned (.string (str (dW l))) ∧ Nw w w' := by
  obtain ⟨P, hP⟩ : ∃ P : Ending → World → Prop, P = fun e w' => e = .returned (.string (str (dW l))) ∧ Nw w w' := ⟨_, rfl⟩
  rw [← hP]
  have HF : Hid (∀ V, Nw w V → P (.returned (.string (str (dW l)))) V) := fun V hV => by rw [hP]; exact ⟨rfl, hV⟩
  clear hP
  have b0 := str_emp l
  have b1 := str_emp2 l
  have hds := dg_size
  have hde := dg_emp
  have hde2 := dg_emp2
  by_cases e0 : l = []
  · subst e0
    have HF2 : Hid (∀ V, Nw w V → P (.returned (.string (str []))) V) := HF
    rw [decide_eq_true rfl] at b0 b1
    clear HF
    generalize str [] = s at *
    go_enter Tryz.func40, Tryz.ntmps40
    go_wp2_with fail
    first | exact HF2.out _ (Fr.refl _ _) | (go_ret; exact HF2.out _ (Fr.refl _ _))
  · rw [decide_eq_false e0] at b0 b1
    have HM := tHid (dmk_any w)
    have hN2 : Nw w ((w.alloc (.cells DS 92)).alloc (.cells DS 92)) := ((Fr.refl _ _).alloc _).alloc _
    have HN2 := tHid hN2
    have hsz1 : (w.alloc (.cells DS 92)).heap.size = w.heap.size + 1 := by simp
    have HW : Hid (((w.alloc (.cells DS 92)).alloc (.cells Tryz.zeroCells92 92)).heap[w.heap.size + 1]? = some (.cells Tryz.zeroCells92 92)) := by
      show _ = _
      rw [← hsz1]; exact newHeap _ _
    have HST : Hid (((w.alloc (.cells DS 92)).alloc (.cells Tryz.zeroCells92 92)).setRow (w.heap.size + 1) DS = (w.alloc (.cells DS 92)).alloc (.cells DS 92)) := by
      show _ = _
      rw [← hsz1]; exact World.setRow_alloc_new _ _ _ _
    have HZS : Hid (Tryz.zeroCells92.size = DS.size) := by show _ = _; rw [zcS, Lib.setCells_size, ds_size]
    have hnew2 : ((w.alloc (.cells DS 92)).alloc (.cells DS 92)).heap[w.heap.size + 1]? = some (.cells DS 92) := by
      rw [← hsz1]; exact newHeap _ _
    have HC := tHid (tla_any l hl (w.heap.size + 1) _ hnew2)
    clear hN2 hnew2 hsz1 e0
    generalize str l = s at *
    generalize str (dW l) = t at *
    skip
    go_enter Tryz.func40, Tryz.ntmps40
    go_wp2_with (first
      | (go_at_call 55; with_reducible refine HM.out.mono ?_; rintro e w1 ⟨rfl, rfl⟩)
      | (refine wpList_store_row rfl 92 _ _ rfl (w.heap.size + 1) DS (by first | rfl | simp [Act.eval]) (by first | rfl | simp [Act.eval]) 92 _ HW.out ds_info HZS.out ds_one ?_; rw [HST.out])
      | (go_at_call 56; with_reducible refine HC.out.mono ?_; rintro e w1 ⟨rfl, rfl⟩))
    first | exact HF.out _ HN2.out | (go_ret; exact HF.out _ HN2.out)
set_option maxHeartbeats 4000000 in
set_option maxRecDepth 100000 in
theorem digs_any (l : Bs) (hl : l.length ≤ 140737488351232) (w : World) : Calls Tryz.prog 23 #[.string (str l)] w fun e w' => e = .returned (.bool (allD l)) ∧ Nw w w' := by
  obtain ⟨P, hP⟩ : ∃ P : Ending → World → Prop, P = fun e w' => e = .returned (.bool (allD l)) ∧ Nw w w' := ⟨_, rfl⟩
  rw [← hP]
  have HF : Hid (∀ V, Nw w V → P (.returned (.bool (allD l))) V) := fun V hV => by rw [hP]; exact ⟨rfl, hV⟩
  clear hP
  have HT : Hid (Calls Tryz.prog 40 #[.string (str l), .string ⟨#[48, 49, 50, 51, 52, 53, 54, 55, 56, 57]⟩] w fun e w' => e = .returned (.string (str (dW l))) ∧ Nw w w') := tl_any l hl w
  have b0 := str_emp (dW l)
  have b1 := str_emp2 (dW l)
  rw [dW_all] at b0 b1
  generalize str l = s at *
  generalize str (dW l) = t at *
  generalize allD l = B at *
  go_enter Tryz.func23, Tryz.ntmps23
  go_wp2_with (first | (go_at_call 40; with_reducible refine HT.out.mono ?_; rintro e w1 ⟨rfl, H1⟩; have H1 := tHid H1))
  first | exact HF.out _ H1.out | (go_ret; exact HF.out _ H1.out)
set_option maxHeartbeats 4000000 in
set_option maxRecDepth 100000 in
theorem num_any (l : Bs) (hl : l.length ≤ 140737488351232) (w : World) (hE : Env w) : Calls Tryz.prog 24 #[.string (str l)] w fun e w' => e = .returned (.tuple #[.int .i64 ((numV l).1 : Nat), .int .i64 ((numV l).2 : Nat)]) ∧ Nw w w' := by
  obtain ⟨P, hP⟩ : ∃ P : Ending → World → Prop, P = fun e w' => e = .returned (.tuple #[.int .i64 ((numV l).1 : Nat), .int .i64 ((numV l).2 : Nat)]) ∧ Nw w w' := ⟨_, rfl⟩
  rw [← hP]
  have HF : Hid (∀ x V, numV l = x → Nw w V → P (.returned (.tuple #[.int .i64 (x.1 : Nat), .int .i64 (x.2 : Nat)])) V) := fun x V hx hV => by rw [hP, hx]; exact ⟨rfl, hV⟩
  clear hP
  have b0 := str_emp l
  have b1 := str_emp2 l
  by_cases e0 : l = []
  · rw [decide_eq_true e0] at b0 b1
    have HF2 := tHid (HF.out (0, 120) w (by unfold numV; rw [if_pos (.inl e0)]) (Fr.refl _ _))
    clear HF
    generalize str l = s at *
    go_enter Tryz.func24, Tryz.ntmps24
    go_wp2_with fail
    first | exact HF2.out | (go_ret; exact HF2.out)
  · rw [decide_eq_false e0] at b0 b1
    have HD := tHid (digs_any l hl w)
    cases hA : allD l with
    | false =>
      rw [hA] at HD
      have HF2 : Hid (∀ V, Nw w V → P (.returned (.tuple #[.int .i64 0, .int .i64 120])) V) := fun V hV => HF.out (0, 120) V (by unfold numV; rw [if_pos (.inr hA)]) hV
      clear HF hA
      generalize str l = s at *
      go_enter Tryz.func24, Tryz.ntmps24
      go_wp2_with (first | (go_at_call 23; with_reducible refine HD.out.mono ?_; rintro e w1 ⟨rfl, H1⟩; have H1 := tHid H1))
      first | exact HF2.out _ H1.out | (go_ret; exact HF2.out _ H1.out)
    | true =>
      rw [hA] at HD
      have hd := (allD_iff l).1 hA
      have hnn : ¬ (l = [] ∨ allD l = false) := by
        rintro (h | h)
        · exact e0 h
        · rw [hA] at h; cases h
      by_cases hv : val 0 l < 9223372036854775808
      · have HPI := tHid (fun V => parse_ok l hd e0 hl hv V)
        have HF2 : Hid (∀ V, Nw w V → P (.returned (.tuple #[.int .i64 (val 0 l : Nat), .int .i64 0])) V) := fun V hV => HF.out (val 0 l, 0) V (by unfold numV; rw [if_neg hnn, if_neg (by omega)]) hV
        clear HF hA hd hnn e0
        generalize str l = s at *
        generalize val 0 l = N at *
        go_enter Tryz.func24, Tryz.ntmps24
        go_wp2_with (first
          | (go_at_call 23; with_reducible refine HD.out.mono ?_; rintro e w1 ⟨rfl, H1⟩; have H1 := tHid H1)
          | (go_at_call 41; with_reducible refine (HPI.out _).mono ?_; rintro e w2 ⟨rfl, H2⟩; have H2 := tHid H2))
        first | exact HF2.out _ (H1.out.trans H2.out) | (go_ret; exact HF2.out _ (H1.out.trans H2.out))
      · have HPI : Hid (∀ V, Nw w V → _) := fun V hV => parse_big l hd e0 hl hv V (hE.nw hV)
        have HF2 : Hid (∀ V, Nw w V → P (.returned (.tuple #[.int .i64 0, .int .i64 121])) V) := fun V hV => HF.out (0, 121) V (by unfold numV; rw [if_neg hnn, if_pos (by omega)]) hV
        clear HF hA hd hnn e0
        generalize str l = s at *
        go_enter Tryz.func24, Tryz.ntmps24
        go_wp2_with (first
          | (go_at_call 23; with_reducible refine HD.out.mono ?_; rintro e w1 ⟨rfl, H1⟩; have H1 := tHid H1)
          | (go_at_call 41; with_reducible refine (HPI.out _ H1.out).mono ?_; rintro e w2 ⟨z, t, p, rfl, H2⟩; have H2 := tHid H2))
        first | exact HF2.out _ (H1.out.trans H2.out) | (go_ret; exact HF2.out _ (H1.out.trans H2.out))
def pnV (n : Int) : Bs × Nat := if n < 0 then ([], 1) else (dec n.toNat, 0)
end Go.Proofs.YtenkchhlaphocaaGreatDoor
