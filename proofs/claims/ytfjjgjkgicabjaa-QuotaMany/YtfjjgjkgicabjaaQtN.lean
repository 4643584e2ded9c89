import Derived.Test.YtfjjgjkgicabjaaQtL
namespace Go.Proofs.Ytfjjgjkgicabjaa
open Go.RowKit Go.MuLone
set_option linter.unusedVariables false
def qL : Qt := ⟨10, 2, 1⟩
def eS0 : ByteArray := ⟨#[]⟩
def eA : En := ⟨[97], 2, 0, 0, 0, 0, 0, eS0, eS0, eS0, 7, 0⟩
def eB : En := ⟨[98], 2, 0, 0, 0, 0, 0, eS0, eS0, eS0, 4, 0⟩
def eC : En := ⟨[98, 47, 99], 2, 0, 0, 0, 0, 0, eS0, eS0, eS0, 1, 0⟩
def eD : En := ⟨[100], 1, 0, 0, 0, 0, 0, eS0, eS0, eS0, 0, 0⟩
def eE : En := ⟨[101], 1, 0, 0, 0, 0, 0, eS0, eS0, eS0, 0, 0⟩
theorem qL_ok : qL.Ok := by constructor <;> decide
theorem qL_can : qL.can = true := by decide
theorem eA_ok : eA.Ok := by constructor <;> decide
theorem eB_ok : eB.Ok := by constructor <;> decide
theorem eC_ok : eC.Ok := by constructor <;> decide
theorem eD_ok : eD.Ok := by constructor <;> decide
theorem eE_ok : eE.Ok := by constructor <;> decide
theorem lv_1 : tkE qL ⟨0, 0⟩ eA = 0 ∧ tkS qL ⟨0, 0⟩ eA = ⟨7, 1⟩ := by
  have h : tkE qL ⟨0, 0⟩ eA = 0 := by decide
  exact ⟨h, by unfold tkS; rw [if_pos h]; rfl⟩
theorem lv_2 : tkE qL ⟨7, 1⟩ eB = 182 ∧ tkS qL ⟨7, 1⟩ eB = ⟨7, 1⟩ := by
  have h : tkE qL ⟨7, 1⟩ eB = 182 := by decide
  exact ⟨h, by unfold tkS; rw [if_neg (by rw [h]; decide)]⟩
theorem lv_3 : tkE qL ⟨7, 1⟩ eC = 181 ∧ tkS qL ⟨7, 1⟩ eC = ⟨7, 1⟩ := by
  have h : tkE qL ⟨7, 1⟩ eC = 181 := by decide
  exact ⟨h, by unfold tkS; rw [if_neg (by rw [h]; decide)]⟩
theorem lv_4 : tkE qL ⟨7, 1⟩ eD = 0 ∧ tkS qL ⟨7, 1⟩ eD = ⟨7, 2⟩ := by
  have h : tkE qL ⟨7, 1⟩ eD = 0 := by decide
  exact ⟨h, by unfold tkS; rw [if_pos h]; rfl⟩
theorem lv_5 : tkE qL ⟨7, 2⟩ eE = 180 ∧ tkS qL ⟨7, 2⟩ eE = ⟨7, 2⟩ := by
  have h : tkE qL ⟨7, 2⟩ eE = 180 := by decide
  exact ⟨h, by unfold tkS; rw [if_neg (by rw [h]; decide)]⟩
theorem lv_6 : bkE ⟨7, 2⟩ eA = 0 := by decide
theorem in_0 : St.In qL ⟨0, 0⟩ := by constructor <;> decide
theorem in_1 : St.In qL ⟨7, 1⟩ := by constructor <;> decide
theorem in_2 : St.In qL ⟨7, 2⟩ := by constructor <;> decide
/-- How lives stands. -/
structure Lv (w : World) (b g : Nat) (s : St) (V : World) : Prop where
  m : MtB b qL s V
  e : V.heap[g]? = some (.cells eA.C 38)
  n : Nw w V
  hb : w.heap.size ≤ b
  ne : g ≠ b
theorem Lv.on {w : World} {b g : Nat} {s s' : St} {V U : World} (h : Lv w b g s V) (hm : MtB b qL s' U) (f : Fr (fun k => k = b) V U) : Lv w b g s' U :=
  ⟨hm, (f.block _ (Array.getElem?_eq_some_iff.1 h.e).1 h.ne).trans h.e, h.n.then f (fun i hi => .inr (by rw [hi]; exact h.hb)), h.hb, h.ne⟩
def entL (l : ByteArray) (k z : Int) : Array Value := #[.string l, .int .i64 k, .int .u32 0, .int .u32 0, .int .u32 0, .int .i64 0, .int .i32 0, .string ⟨#[]⟩, .string ⟨#[]⟩, .string ⟨#[]⟩, .int .i64 z, .int .u8 0]
theorem lv_take {w : World} {b g : Nat} {s : St} (e : En) (C : Array Value) (t : Nat) (z : Int) (hz : (t : Int) = z) (s' : St) (hC : e.C = C) (he : e.Ok) (hI : s.In qL) (ht : tkE qL s e = t ∧ tkS qL s e = s') (V : World) (h : Lv w b g s V) :
    Calls Try.prog 13 #[.pointer (some ⟨b, 0, none⟩), .agg C] V fun r w' => r = .returned (.int .i64 z) ∧ Hid (Lv w b g s' w') := by
  subst hC
  subst hz
  refine (mtake_any V b qL s e h.m hI qL_ok he).mono ?_
  rintro r w' ⟨e1, e2, e3⟩
  rw [ht.1] at e1
  rw [ht.2] at e2
  exact ⟨e1, h.on e2 e3⟩
theorem ent_cells {V : World} {g : Nat} {l : ByteArray} {k z : Int} (h : V.heap[g]? = some (.cells (entL l k z) 38)) : V.cell? ⟨g, 0, none⟩ = some (.string l) ∧ V.cell? ⟨g, 1, none⟩ = some (.int .i64 k) ∧ V.cell? ⟨g, 2, none⟩ = some (.int .u32 0) ∧ V.cell? ⟨g, 3, none⟩ = some (.int .u32 0) ∧ V.cell? ⟨g, 4, none⟩ = some (.int .u32 0) ∧ V.cell? ⟨g, 5, none⟩ = some (.int .i64 0) ∧ V.cell? ⟨g, 6, none⟩ = some (.int .i32 0) ∧ V.cell? ⟨g, 7, none⟩ = some (.string ⟨#[]⟩) ∧ V.cell? ⟨g, 8, none⟩ = some (.string ⟨#[]⟩) ∧ V.cell? ⟨g, 9, none⟩ = some (.string ⟨#[]⟩) ∧ V.cell? ⟨g, 10, none⟩ = some (.int .i64 z) ∧ V.cell? ⟨g, 11, none⟩ = some (.int .u8 0) := by
  unfold entL at h
  refine ⟨?_, ?_, ?_, ?_, ?_, ?_, ?_, ?_, ?_, ?_, ?_, ?_⟩ <;> simp [World.cell?, h]
set_option maxHeartbeats 4000000 in
theorem lives_any (w : World) : Calls Try.prog 10 #[] w fun r w' => r = .returned (.bool true) ∧ Nw w w' := by
  have HN : Hid (Calls Try.prog 11 #[.agg #[.int .i64 10, .int .i64 2, .int .i64 1]] w fun e w' => ∃ b, e = .returned (.tuple #[.pointer (some ⟨b, 0, none⟩), .int .i64 0]) ∧ Hid (Lv w b w'.heap.size ⟨0, 0⟩ (w'.alloc (.cells (entL ⟨#[97]⟩ 2 7) 38)))) := by
    show Calls _ _ _ _ _
    refine (new_yes w qL qL_can).mono ?_
    rintro e w' ⟨b, e1, e2, e3, e4⟩
    exact ⟨b, e1, ⟨Nw.heap ((Fr.refl _ _).alloc _) e3, newHeapQ _ _, e4.alloc _, e2, by have := e3.lt; omega⟩⟩
  have H1 : Hid (∀ b g V, Lv w b g ⟨0, 0⟩ V → _) := fun b g V h => lv_take eA (entL ⟨#[97]⟩ 2 7) 0 0 rfl _ rfl eA_ok in_0 lv_1 V h
  have H2 : Hid (∀ b g V, Lv w b g ⟨7, 1⟩ V → _) := fun b g V h => lv_take eB (entL ⟨#[98]⟩ 2 4) 182 182 rfl _ rfl eB_ok in_1 lv_2 V h
  have H3 : Hid (∀ b g V, Lv w b g ⟨7, 1⟩ V → _) := fun b g V h => lv_take eC (entL ⟨#[98, 47, 99]⟩ 2 1) 181 181 rfl _ rfl eC_ok in_1 lv_3 V h
  have H4 : Hid (∀ b g V, Lv w b g ⟨7, 1⟩ V → _) := fun b g V h => lv_take eD (entL ⟨#[100]⟩ 1 0) 0 0 rfl _ rfl eD_ok in_1 lv_4 V h
  have H5 : Hid (∀ b g V, Lv w b g ⟨7, 2⟩ V → _) := fun b g V h => lv_take eE (entL ⟨#[101]⟩ 1 0) 180 180 rfl _ rfl eE_ok in_2 lv_5 V h
  have H6 : Hid (∀ b g V, Lv w b g ⟨7, 2⟩ V → Calls Try.prog 14 #[.pointer (some ⟨b, 0, none⟩)] V fun r w' => r = .returned (.agg #[.int .i64 3, .int .i64 0, .int .i64 1]) ∧ Hid (Lv w b g ⟨7, 2⟩ w')) := fun b g V h => (mleft_any V b qL ⟨7, 2⟩ h.m in_2 qL_ok).mono (fun r w' ⟨e1, e2, e3⟩ => ⟨e1, h.on e2 e3⟩)
  have H7 : Hid (∀ b g V, Lv w b g ⟨7, 2⟩ V → Calls Try.prog 15 #[.pointer (some ⟨b, 0, none⟩)] V fun r w' => r = .returned (.agg #[.int .i64 7, .int .i64 2, .int .i64 0]) ∧ Hid (Lv w b g ⟨7, 2⟩ w')) := fun b g V h => (mused_any V b qL ⟨7, 2⟩ h.m).mono (fun r w' ⟨e1, e2, e3⟩ => ⟨e1, h.on e2 e3⟩)
  have H8 : Hid (∀ b g V, Lv w b g ⟨7, 2⟩ V → Calls Try.prog 18 #[.pointer (some ⟨b, 0, none⟩), .agg (entL ⟨#[97]⟩ 2 7)] V fun r w' => r = .returned (.int .i64 0) ∧ Hid (Nw w w')) := fun b g V h => (mback_any V b qL ⟨7, 2⟩ eA h.m in_2 qL_ok eA_ok).mono (fun r w' ⟨e1, e2, e3⟩ => ⟨by rw [e1, lv_6]; rfl, (h.on e2 e3).n⟩)
  have HC : Hid (∀ b g s V, Lv w b g s V → V.heap[g]? = some (.cells (entL ⟨#[97]⟩ 2 7) 38)) := fun b g s V h => h.e
  unfold entL at H1 H2 H3 H4 H5 H8 HN
  go_enter Try.func10, Try.ntmps10
  go_wp2_with (first
    | (go_at_call 11; with_reducible refine HN.out.mono ?_; rintro e w0 ⟨b, rfl, K0⟩)
    | (go_at_call 13; first
        | (with_reducible refine (H1.out b _ _ K0.out).mono ?_; rintro e w1 ⟨rfl, K1⟩)
        | (with_reducible refine (H2.out b _ _ K1.out).mono ?_; rintro e w2 ⟨rfl, K2⟩)
        | (with_reducible refine (H3.out b _ _ K2.out).mono ?_; rintro e w3 ⟨rfl, K3⟩)
        | (with_reducible refine (H4.out b _ _ K3.out).mono ?_; rintro e w4 ⟨rfl, K4⟩)
        | (with_reducible refine (H5.out b _ _ K4.out).mono ?_; rintro e w5 ⟨rfl, K5⟩))
    | (go_at_call 14; with_reducible refine (H6.out b _ _ K5.out).mono ?_; rintro e w6 ⟨rfl, K6⟩)
    | (go_at_call 15; with_reducible refine (H7.out b _ _ K6.out).mono ?_; rintro e w7 ⟨rfl, K7⟩; obtain ⟨x0, x1, x2, x3, x4, x5, x6, x7, x8, x9, x10, x11⟩ := ent_cells (HC.out b _ _ _ K7.out))
    | (go_at_call 18; with_reducible refine (H8.out b _ _ K7.out).mono ?_; rintro e w8 ⟨rfl, K8⟩))
  go_ret
  exact ⟨rfl, K8.out⟩
end Go.Proofs.Ytfjjgjkgicabjaa
