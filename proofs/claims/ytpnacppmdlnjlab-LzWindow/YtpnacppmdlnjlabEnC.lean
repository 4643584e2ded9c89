import Derived.Test.YtpnacppmdlnjlabEnA
import Derived.Test.YtpnacppmdlnjlabLzOp
import Derived.Maps.OwnSet
import Derived.DeepKeys4
namespace Go.Proofs.Ytpnacppmdlnjlab
open Go.RowKit Go.ChangeMaps Go.MapKept
set_option linter.unusedVariables false
/-! ### Maps under keys of four bytes -/
def kv (k : List By) : Value := .agg (k.map bv).toArray
theorem keyRow : (67 : TypeId) < Try.prog.types.size := of_decide_eq_true (by kernel_rfl)
theorem keyWide : (match Try.prog.underlying 67 with | some (.array _ _) | some (.struct _) => true | _ => false) = true := by kernel_rfl
theorem keyCells : Try.prog.cellsOf 67 = 4 := by kernel_rfl
theorem klaw : Maps.Keyed Try.prog 67 := Maps.Keyed.of_law (deep_law_laid laidOut (m := 2) (by omega) keyRow (by kernel_rfl) keyWide)
theorem keyTyp : Try.prog.keyType 67 = true := by kernel_rfl
theorem u8wf (b : By) : (Lit.int .u8 b.toNat).wf = true := by
  have := b.isLt
  simp [Lit.wf, IntKind.bits, IntKind.signed, IntKind.min, IntKind.max]
  omega
theorem keyOf_kv (k : List By) (hk : k.length = 4) : ∃ l, keyOf Try.prog 67 (kv k) = some l := by
  match k, hk with
  | [a, b, c, d], _ =>
    have hf : (kv [a, b, c, d]).formed Try.prog 67 = true := by simp [kv, Value.formed, Try.underlying67, keyCells]
    have hl : ∃ ls, Try.prog.keyLits (Try.prog.types.size + 1) 67 (kv [a, b, c, d]).cells.toList = some ls := by
      have hlt : 67 < Try.prog.types.size := keyRow
      obtain ⟨m, hm⟩ : ∃ m, Try.prog.types.size = m + 1 := ⟨Try.prog.types.size - 1, by omega⟩
      rw [hm]
      clear hm hlt
      have wa := u8wf a
      have wb := u8wf b
      have wc := u8wf c
      have wd := u8wf d
      simp [Program.keyLits, Try.underlying67, Try.underlying5, keyCells, cells5, kv, Value.cells, List.range_succ, bv, wa, wb, wc, wd]
    obtain ⟨ls, hls⟩ := hl
    refine ⟨.string (keyBytes ls), ?_⟩
    unfold keyOf
    rw [Try.underlying67]
    simp only [keyTyp, hf, Bool.and_self, if_true, hls, Option.map_some]
open Classical in
noncomputable def klit (k : List By) : Lit := if h : ∃ l, keyOf Try.prog 67 (kv k) = some l then h.choose else .bool false
theorem klit_eq (k : List By) (hk : k.length = 4) : keyOf Try.prog 67 (kv k) = some (klit k) := by
  unfold klit
  rw [dif_pos (keyOf_kv k hk)]
  exact (keyOf_kv k hk).choose_spec
theorem kv_inj {k k' : List By} (h : kv k = kv k') : k = k' := by
  unfold kv at h
  injection h with h
  have h2 : k.map bv = k'.map bv := by
    have := congrArg Array.toList h
    simpa using this
  have hinj : ∀ (x y : List By), x.map bv = y.map bv → x = y := by
    intro x
    induction x with
    | nil => intro y h; cases y with
      | nil => rfl
      | cons _ _ => simp at h
    | cons a x ih =>
      intro y h
      cases y with
      | nil => simp at h
      | cons b y =>
        simp only [List.map_cons, List.cons.injEq] at h
        have h1 := h.1
        unfold bv at h1
        injection h1 with _ h1
        rw [ih y h.2, BitVec.eq_of_toNat_eq (Int.ofNat.inj h1)]
  exact hinj _ _ h2
theorem klit_inj {k k' : List By} (hk : k.length = 4) (hk' : k'.length = 4) (h : klit k = klit k') : k = k' := by
  have h1 := klit_eq k hk
  have h2 := klit_eq k' hk'
  rw [← h] at h2
  exact kv_inj (klaw.inj h1 h2)
/-- Block b is a map that reads as m. -/
def MpO (b : Nat) (m : Pm) (n : Nat) (w : World) : Prop := ∃ D : DataW Unit, w.ownsMap Try.prog 67 (plainElem Try.prog 3) b n D ∧ ∀ k, k.length = 4 → match m k with
  | none => Maps.has D (klit k) = false
  | some q => Maps.has D (klit k) = true ∧ D.atKey (klit k) (.lit (.int .i64 0)) = .lit (.int .i64 q)
theorem Fr.grown {X : Nat → Prop} {w w' : World} (h : Fr X w w') (b : Nat) (hb : ¬ X b) : ∀ {P : Program} {k : TypeId} {R : Value → Option (DataW Unit × List MemPlace)} {n : Nat} {D : DataW Unit}, w.ownsMap P k R b n D → w'.ownsMap P k R b n D := by
  intro P k R n D ho
  have hlt := ho.lt
  obtain ⟨es, clock, hbk, F, hs, hD⟩ := ho
  exact ⟨es, clock, (h.block b hlt hb).trans hbk, F, hs, hD⟩
theorem MpO.kept {b : Nat} {m : Pm} {n : Nat} {w w' : World} {X : Nat → Prop} (h : MpO b m n w) (f : Fr X w w') (hb : ¬ X b) : MpO b m n w' := by
  obtain ⟨D, h1, h2⟩ := h
  exact ⟨D, f.grown b hb h1, h2⟩
theorem MpO.nw {b : Nat} {m : Pm} {n : Nat} {w w' : World} (h : MpO b m n w) (f : Nw w w') : MpO b m n w' := h.kept f (fun h => h)
theorem MpO.lt {b : Nat} {m : Pm} {n : Nat} {w : World} (h : MpO b m n w) : b < w.heap.size := by
  obtain ⟨D, h1, _⟩ := h
  exact h1.lt
theorem MpO.mono {b : Nat} {m : Pm} {n n' : Nat} {w : World} (h : MpO b m n w) (hn : n ≤ n') : MpO b m n' w := by
  obtain ⟨D, h1, h2⟩ := h
  exact ⟨D, h1.mono hn, h2⟩
theorem MpO.made (w : World) : MpO w.heap.size (fun _ => none) 0 (w.alloc (.map #[] 0)) := ⟨.map [], World.ownsMap_made _ _ _ _, fun k hk => rfl⟩
theorem zero3 (w : World) : (zeroValue 3).run Try.prog w = .ok (.int .i64 0) w := by kernel_rfl
theorem MpO.look {b : Nat} {m : Pm} {n : Nat} {w : World} (h : MpO b m n w) (k : List By) (hk : k.length = 4) : (Instr.lookup 51 (.map (some b)) (kv k) true).run Try.prog w = .ok (.tuple #[.int .i64 ((m k).getD 0 : Nat), .bool (m k).isSome]) w := by
  obtain ⟨D, h1, h2⟩ := h
  obtain ⟨v, ps, hrun, hv⟩ := h1.look_ok klaw Try.underlying51 (zero3 w) (plainElem_int Try.underlying3 (by decide)) (klit_eq k hk)
  obtain ⟨c, rfl, hc, _⟩ := plainElem_int_inv Try.underlying3 hv
  have hc' := congrArg Prod.fst hc
  simp only at hc'
  have := h2 k hk
  rw [hrun]
  cases hm : m k with
  | none =>
    rw [hm] at this
    simp only at this
    rw [Maps.atKey_of_not_has this] at hc'
    injection hc' with hc'
    injection hc' with _ hc'
    rw [this, ← hc']
    rfl
  | some q =>
    rw [hm] at this
    simp only at this
    rw [this.2] at hc'
    injection hc' with hc'
    injection hc' with _ hc'
    rw [this.1, ← hc']
    rfl
theorem MpO.store {b : Nat} {m : Pm} {n : Nat} {w : World} (h : MpO b m n w) (k : List By) (hk : k.length = 4) (q : Nat) (hq : q < 9223372036854775808) (hn : n ≤ 100000000) : ∃ w', (Instr.mapUpdate 51 (.map (some b)) (kv k) (.int .i64 q)).run Try.prog w = .ok () w' ∧ MpO b (fun x => if x = k then some q else m x) (n + 1) w' ∧ Fr (fun i => i = b) w w' := by
  obtain ⟨D, h1, h2⟩ := h
  have hwf : (Lit.int .i64 (q : Int)).wf = true := by
    simp [Lit.wf, IntKind.bits, IntKind.signed, IntKind.min, IntKind.max]
    omega
  obtain ⟨w', hrun, ho, hg⟩ := h1.update klaw Try.underlying51 (by unfold maxLen; omega) (klit_eq k hk) (plainElem_int (H := Unit) Try.underlying3 hwf)
  refine ⟨w', hrun, ⟨_, ho, fun x hx => ?_⟩, ⟨hg.os, hg.tape, hg.output, hg.size, fun i hi hne => hg.block i hi (fun e => hne (by injection e))⟩⟩
  have hkl := klaw.key (klit_eq k hk)
  by_cases hxk : x = k
  · subst hxk
    simp only [if_true]
    exact ⟨Maps.has_put_same h1.isMap hkl _, Maps.atKey_put_same h1.isMap hkl _ _⟩
  · simp only [if_neg hxk]
    have hne : klit x ≠ klit k := fun e => hxk (klit_inj hx hk e)
    have := h2 x hx
    rw [Maps.has_put_other hne]
    cases hm : m x with
    | none => rw [hm] at this; exact this
    | some p => rw [hm] at this; exact ⟨this.1, by rw [Maps.atKey_put_other hne]; exact this.2⟩
theorem MpO.clear {b : Nat} {m : Pm} {n : Nat} {w : World} (h : MpO b m n w) : ∃ w', (∀ ty, (Builtin.clear_ #[51] ty #[.map (some b)]).run Try.prog w = .ok (.tuple #[]) w') ∧ MpO b (fun _ => none) 0 w' ∧ Fr (fun i => i = b) w w' := by
  obtain ⟨D, ⟨es, clock, hb, F, hs, hD⟩, _⟩ := h
  refine ⟨setBlock w b (.map #[] clock), fun ty => ?_, ⟨.map [], ⟨#[], clock, heap_setBlock_same hb _, ⟨by simp, stamped_empty clock, by simp⟩, Nat.le_refl _, rfl⟩, fun k hk => rfl⟩, ⟨rfl, rfl, rfl, by simp [setBlock], fun i hi hne => heap_setBlock_other hb _ hne⟩⟩
  simp [Builtin.clear_, run_underlying Try.underlying51, MapKept.run_getObj_map hb, run_setObj_map _ hb, Result.andThen]
  rfl
end Go.Proofs.Ytpnacppmdlnjlab
