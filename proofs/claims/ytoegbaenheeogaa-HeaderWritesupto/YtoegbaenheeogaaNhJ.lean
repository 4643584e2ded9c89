import Derived.Test.YtoegbaenheeogaaNhI
namespace Go.Proofs.Ytoegbaenheeogaa
open Go.RowKit
set_option linter.unusedVariables false
set_option maxRecDepth 100000
/-! ### The map of the forms -/
def fZ : Value := .agg #[.int .i64 0, .int .i64 0, .nilFunc]
theorem fV_inj {a b : Nat} (h : fV a = fV b) : a = b := by
  unfold fV at h
  injection h with h
  have := congrArg (·[0]?) h
  simp at this
  omega
theorem fV_ne_fZ {a : Nat} (h : a ≠ 0) : fV a ≠ fZ := fun e => by
  unfold fV fZ at e
  injection e with e
  have := congrArg (·[0]?) e
  simp at this
  omega
open Classical in
noncomputable def RFm (u : Value) : Option (DataW Unit × List MemPlace) :=
  if u = fV 1 then some (.lit (.int .i64 1), []) else if u = fV 2 then some (.lit (.int .i64 2), []) else if u = fV 3 then some (.lit (.int .i64 3), []) else if u = fZ then some (.lit (.bool false), []) else none
noncomputable def MF : MT (List UInt8) Nat := { kt := 9, et := 38, mt := 40, kv := fun k => .string ⟨⟨k⟩⟩, kl := fun k => .string k, kok := fun k => k.length ≤ 140737488351232, ev := fV, ed := fun f => .lit (.int .i64 f), eok := isF, zv := fZ, zd := .lit (.bool false), R := RFm }
theorem mfOk : MF.Ok where
  keyed := Maps.string_keyed Try.underlying9
  und := Try.underlying40
  keq := fun k hk => by
    have := WideMaps.keyOf_string_mk (P := Try.prog) (k := 9) Try.underlying9 (s := ⟨⟨k⟩⟩) (by
      have e : (⟨⟨k⟩⟩ : ByteArray).size = k.length := rfl
      simp only [MF] at hk; rw [e]; unfold maxLen; omega)
    exact this
  kinj := fun k k' _ _ h => by simp only [MF] at h; injection h
  eR := fun v hv => by
    have h12 : fV 2 ≠ fV 1 := fun e => by have := fV_inj e; omega
    have h13 : fV 3 ≠ fV 1 := fun e => by have := fV_inj e; omega
    have h23 : fV 3 ≠ fV 2 := fun e => by have := fV_inj e; omega
    show RFm (fV v) = some (.lit (.int .i64 v), [])
    unfold RFm
    rcases hv with rfl | rfl | rfl
    · rw [if_pos rfl]; rfl
    · rw [if_neg h12, if_pos rfl]; rfl
    · rw [if_neg h13, if_neg h23, if_pos rfl]; rfl
  einv := fun u v ps hv h => by
    have h' : RFm u = some (.lit (.int .i64 (v : Nat)), ps) := h
    show u = fV v
    unfold RFm at h'
    split at h'
    · next q => simp only [Option.some.injEq, Prod.mk.injEq, DataW.lit.injEq, Lit.int.injEq, true_and] at h'; rw [q]; congr 1; omega
    · split at h'
      · next q => simp only [Option.some.injEq, Prod.mk.injEq, DataW.lit.injEq, Lit.int.injEq, true_and] at h'; rw [q]; congr 1; omega
      · split at h'
        · next q => simp only [Option.some.injEq, Prod.mk.injEq, DataW.lit.injEq, Lit.int.injEq, true_and] at h'; rw [q]; congr 1; omega
        · split at h'
          · simp only [Option.some.injEq, Prod.mk.injEq, DataW.lit.injEq] at h'; cases h'.1
          · cases h'
  zR := by
    show RFm fZ = _
    unfold RFm
    rw [if_neg (fun e => fV_ne_fZ (by decide) e.symm), if_neg (fun e => fV_ne_fZ (by decide) e.symm), if_neg (fun e => fV_ne_fZ (by decide) e.symm), if_pos rfl]
    rfl
  zinv := fun u ps h => by
    have h' : RFm u = some (.lit (.bool false), ps) := h
    show u = fZ
    unfold RFm at h'
    split at h'
    · simp only [Option.some.injEq, Prod.mk.injEq, DataW.lit.injEq] at h'; cases h'.1
    · split at h'
      · simp only [Option.some.injEq, Prod.mk.injEq, DataW.lit.injEq] at h'; cases h'.1
      · split at h'
        · simp only [Option.some.injEq, Prod.mk.injEq, DataW.lit.injEq] at h'; cases h'.1
        · split at h'
          · next q => exact q
          · cases h'
  zero := fun w => by kernel_rfl
def mk1 : List UInt8 := [0, 0, 0, 0, 0, 0, 0, 0]
def mk2 : List UInt8 := [117, 115, 116, 97, 114, 0, 48, 48]
def mk3 : List UInt8 := [117, 115, 116, 97, 114, 32, 32, 0]
def mF (k : List UInt8) : Option Nat := if k = mk3 then some 3 else if k = mk2 then some 2 else if k = mk1 then some 1 else none
set_option maxHeartbeats 1000000 in
theorem forms_any (w : World) : Calls Try.prog 16 #[] w fun e w' => e = .returned (.map (some w.heap.size)) ∧ Nw w w' ∧ Mp MF w.heap.size mF 3 w' := by
  obtain ⟨P, hP⟩ : ∃ P : Ending → World → Prop, P = fun e w' => e = .returned (.map (some w.heap.size)) ∧ Nw w w' ∧ Mp MF w.heap.size mF 3 w' := ⟨_, rfl⟩
  rw [← hP]
  have M0 : Mp MF w.heap.size (fun _ => none) 0 (w.alloc (.map #[] 0)) := Mp.made w
  obtain ⟨W1, r1, m1, f1⟩ := M0.store mfOk mk1 (by show (8 : Nat) ≤ _; omega) 1 (.inl rfl) (by omega)
  have M1 := m1 (fun k => if k = mk1 then some 1 else none) (fun x _ => rfl)
  obtain ⟨W2, r2, m2, f2⟩ := M1.store mfOk mk2 (by show (8 : Nat) ≤ _; omega) 2 (.inr (.inl rfl)) (by decide)
  have M2 := m2 (fun k => if k = mk2 then some 2 else if k = mk1 then some 1 else none) (fun x _ => rfl)
  obtain ⟨W3, r3, m3, f3⟩ := M2.store mfOk mk3 (by show (8 : Nat) ≤ _; omega) 3 (.inr (.inr rfl)) (by decide)
  have M3 := m3 mF (fun x _ => rfl)
  have n0 : Nw w (w.alloc (.map #[] 0)) := (Fr.refl _ _).alloc _
  have n1 : Nw w W1 := Fr.then n0 f1 (fun i hi => .inr (by omega))
  have n2 : Nw w W2 := Fr.then n1 f2 (fun i hi => .inr (by omega))
  have n3 : Nw w W3 := Fr.then n2 f3 (fun i hi => .inr (by omega))
  have HF : Hid (P (.returned (.map (some w.heap.size))) W3) := by
    rw [hP]
    exact ⟨rfl, n3, M3⟩
  have q1 : (Instr.mapUpdate 40 (.map (some w.heap.size)) (.string ⟨#[0, 0, 0, 0, 0, 0, 0, 0]⟩) (.agg #[.int .i64 1, .int .i64 257, .func (.func 30) #[] #[]])).run Try.prog (w.alloc (.map #[] 0)) = .ok () W1 := r1
  have q2 : (Instr.mapUpdate 40 (.map (some w.heap.size)) (.string ⟨#[117, 115, 116, 97, 114, 0, 48, 48]⟩) (.agg #[.int .i64 2, .int .i64 500, .func (.func 30) #[] #[]])).run Try.prog W1 = .ok () W2 := r2
  have q3 : (Instr.mapUpdate 40 (.map (some w.heap.size)) (.string ⟨#[117, 115, 116, 97, 114, 32, 32, 0]⟩) (.agg #[.int .i64 3, .int .i64 345, .func (.func 31) #[] #[]])).run Try.prog W2 = .ok () W3 := r3
  have q0 : (Instr.makeMap 40 none).run Try.prog w = .ok (.map (some w.heap.size)) (w.alloc (.map #[] 0)) := by simp [Instr.makeMap]
  clear hP M0 m1 M1 m2 M2 m3 M3 n0 n1 n2 n3 r1 r2 r3 f1 f2 f3
  go_enter Try.func16, Try.ntmps16
  go_wp2_with fail
  exact HF.out
end Go.Proofs.Ytoegbaenheeogaa
