import Derived.Test.YtpjnbhflnbhnoaaGreatDoorWbj
import Derived.Test.YtpjnbhflnbhnoaaGreatDoorWbk
import Derived.Deep.CutBlock
namespace Go.Proofs.YtpjnbhflnbhnoaaGreatDoor
open Go.RowKit
set_option linter.unusedVariables false
/-! ### One, as a function -/
inductive OZ where
  | bad (y : Nat)
  | ok (out : List By) (m : Md) (n : Nat)
noncomputable def oneZ (b : List By) (most : Int) : OZ :=
  if most < 0 ∨ 4194304 < most then .bad 1 else
  match headH b 0 with
  | .bad y => .bad y
  | .ok m n => if (idec (b.drop n) most).2.2 ≠ 0 then .bad (idec (b.drop n) most).2.2 else
      if chkZ (b.drop (n + (idec (b.drop n) most).2.1)) (idec (b.drop n) most).1 ≠ 0 then .bad (chkZ (b.drop (n + (idec (b.drop n) most).2.1)) (idec (b.drop n) most).1)
      else .ok (idec (b.drop n) most).1 m (n + (idec (b.drop n) most).2.1 + 8)
/-- No error is 0. -/
def Hz.nz {α : Type} (r : Hz α) : Prop := ∀ y, r = .bad y → y ≠ 0
theorem Hz.nz_bind {α β : Type} {r : Hz α} {f : α → Nat → Hz β} (h : r.nz) (hf : ∀ a p, (f a p).nz) : (r.bind f).nz := by
  cases r with
  | bad y => exact fun z e => by simp only [Hz.bind] at e; injection e with e; subst e; exact h y rfl
  | ok a p => exact hf a p
theorem nz_must {q : By → Bool} {why : Nat} (hw : why ≠ 0 ∨ ∀ x, q x = true) (b : List By) (p : Nat) : (mustH q why b p).nz := by
  intro y e
  unfold mustH at e
  cases hx : b[p]? with
  | none => rw [hx] at e; injection e with e; omega
  | some x =>
    rw [hx] at e
    simp only at e
    split at e
    · cases e
    · rename_i hq
      injection e with e
      rcases hw with hw | hw
      · omega
      · exact absurd (hw x) hq
theorem nz_take (n : Nat) (b : List By) (p : Nat) : (takeH n b p).nz := by
  intro y e
  unfold takeH at e
  split at e
  · cases e
  · injection e with e; omega
theorem nz_text (b : List By) (p : Nat) : (textH b p).nz := by
  intro y e
  unfold textH at e
  split at e
  · split at e <;> (injection e with e; omega)
  · cases e
theorem nz_ok {α : Type} (a : α) (p : Nat) : (Hz.ok a p).nz := fun y e => by cases e
theorem head_nz (b : List By) (p : Nat) : (headH b p).nz := by
  unfold headH
  refine Hz.nz_bind (nz_must (.inl (by decide)) _ _) fun _ p => Hz.nz_bind (nz_must (.inl (by decide)) _ _) fun _ p => Hz.nz_bind (nz_must (.inl (by decide)) _ _) fun _ p => Hz.nz_bind (nz_must (.inl (by decide)) _ _) fun f p => ?_
  unfold h1
  refine Hz.nz_bind (nz_take _ _ _) fun t p => Hz.nz_bind (nz_must (.inr (fun _ => rfl)) _ _) fun x p => Hz.nz_bind (nz_must (.inr (fun _ => rfl)) _ _) fun y p => ?_
  unfold h2
  refine Hz.nz_bind ?_ fun ex p => ?_
  · unfold exH
    split
    · exact Hz.nz_bind (nz_take _ _ _) fun n p => nz_take _ _ _
    · exact nz_ok _ _
  unfold h3
  refine Hz.nz_bind ?_ fun nm p => ?_
  · unfold txH; split; exact nz_text _ _; exact nz_ok _ _
  unfold h4
  refine Hz.nz_bind ?_ fun cm p => ?_
  · unfold txH; split; exact nz_text _ _; exact nz_ok _ _
  unfold h5
  refine Hz.nz_bind ?_ fun _ p => nz_ok _ _
  unfold smH
  split
  · unfold sumH
    exact Hz.nz_bind (nz_must (.inl (by decide)) _ _) fun _ p => Hz.nz_bind (nz_must (.inl (by decide)) _ _) fun _ p => nz_ok _ _
  · exact nz_ok _ _
theorem head_pos {b : List By} {m : Md} {n : Nat} (h : headH b 0 = .ok m n) : 0 < b.length := by
  unfold headH at h
  cases e : mustH (fun x => decide (x.toNat = 31)) 130 b 0 with
  | bad y => rw [e] at h; cases h
  | ok x p => have := must_ok e; omega
theorem idec_out (b : List By) (most : Int) : (idec b most).1.length ≤ 4194304 := by
  unfold idec
  split
  · simp
  · split
    · rename_i hm _
      have hi : Iv most.toNat (bt b 0) ini := ⟨by simp [ini], fun e => by simp [ini] at e, fun e => by simp [ini] at e⟩
      have := (run_ad ini (bt b 0) hi).1.ol
      simp only
      omega
    · simp
theorem idec_at (b : List By) (most : Int) : (idec b most).2.1 ≤ b.length := by
  unfold idec
  split
  · simp
  · split
    · simp only; omega
    · simp
theorem oret {R : Ending → World → Prop} {a : Act} {w : World} {row : Array Value} {v4 v6 v7 : Value} (rs : Nat) (h4 : a.tmps.getD 4 undef = v4) (h5 : a.tmps.getD 5 undef = .pointer (some ⟨rs, 0, none⟩)) (h6 : a.tmps.getD 6 undef = v6) (h7 : a.tmps.getD 7 undef = v7) (hrow : w.heap[rs]? = some (.cells row 25)) (hsz : row.size = 8) (hd : a.defers = []) (hR : R (.returned (.tuple #[v4, .agg row, v6, v7])) w) : bodyPost Tryz.prog Tryz.f19 R .ret a w := by
  have hi : (Tryz.prog.info? 25).map (·.size) = some row.size := by rw [hsz]; kernel_rfl
  have hl := run_loadVar_row (P := Tryz.prog) w rs 25 25 row (0, 0) _ hrow Tryz.underlying25 rfl hi
  have hp4 : a.tmps[4]?.getD undef = v4 := by simpa using h4
  have hp5 : a.tmps[5]?.getD undef = .pointer (some ⟨rs, 0, none⟩) := by simpa using h5
  have hp6 : a.tmps[6]?.getD undef = v6 := by simpa using h6
  have hp7 : a.tmps[7]?.getD undef = v7 := by simpa using h7
  refine bodyPost_ret ?_ hd hR
  simp [results, hp4, hp5, hp6, hp7, asAddr, hl]
end Go.Proofs.YtpjnbhflnbhnoaaGreatDoor

namespace Go.Proofs.YtpjnbhflnbhnoaaGreatDoor
open Go.RowKit
set_option linter.unusedVariables false
theorem set8 {V : World} {rs : Nat} {T : Nat} {z0 z1 z2 z3 z4 z5 z6 z7 : Value} (h : V.heap[rs]? = some (.cells #[z0, z1, z2, z3, z4, z5, z6, z7] T)) (x0 x1 x2 x3 x4 x5 x6 x7 : Value) :
    V.cell? ⟨rs, 0, none⟩ = some z0 ∧ V.frozen? ⟨rs, 0, none⟩ = false ∧ (V.setCell ⟨rs, 0, none⟩ x0).cell? ⟨rs, 1, none⟩ = some z1 ∧ (V.setCell ⟨rs, 0, none⟩ x0).frozen? ⟨rs, 1, none⟩ = false ∧ ((V.setCell ⟨rs, 0, none⟩ x0).setCell ⟨rs, 1, none⟩ x1).cell? ⟨rs, 2, none⟩ = some z2 ∧ ((V.setCell ⟨rs, 0, none⟩ x0).setCell ⟨rs, 1, none⟩ x1).frozen? ⟨rs, 2, none⟩ = false ∧ (((V.setCell ⟨rs, 0, none⟩ x0).setCell ⟨rs, 1, none⟩ x1).setCell ⟨rs, 2, none⟩ x2).cell? ⟨rs, 3, none⟩ = some z3 ∧ (((V.setCell ⟨rs, 0, none⟩ x0).setCell ⟨rs, 1, none⟩ x1).setCell ⟨rs, 2, none⟩ x2).frozen? ⟨rs, 3, none⟩ = false ∧ ((((V.setCell ⟨rs, 0, none⟩ x0).setCell ⟨rs, 1, none⟩ x1).setCell ⟨rs, 2, none⟩ x2).setCell ⟨rs, 3, none⟩ x3).cell? ⟨rs, 4, none⟩ = some z4 ∧ ((((V.setCell ⟨rs, 0, none⟩ x0).setCell ⟨rs, 1, none⟩ x1).setCell ⟨rs, 2, none⟩ x2).setCell ⟨rs, 3, none⟩ x3).frozen? ⟨rs, 4, none⟩ = false ∧ (((((V.setCell ⟨rs, 0, none⟩ x0).setCell ⟨rs, 1, none⟩ x1).setCell ⟨rs, 2, none⟩ x2).setCell ⟨rs, 3, none⟩ x3).setCell ⟨rs, 4, none⟩ x4).cell? ⟨rs, 5, none⟩ = some z5 ∧ (((((V.setCell ⟨rs, 0, none⟩ x0).setCell ⟨rs, 1, none⟩ x1).setCell ⟨rs, 2, none⟩ x2).setCell ⟨rs, 3, none⟩ x3).setCell ⟨rs, 4, none⟩ x4).frozen? ⟨rs, 5, none⟩ = false ∧ ((((((V.setCell ⟨rs, 0, none⟩ x0).setCell ⟨rs, 1, none⟩ x1).setCell ⟨rs, 2, none⟩ x2).setCell ⟨rs, 3, none⟩ x3).setCell ⟨rs, 4, none⟩ x4).setCell ⟨rs, 5, none⟩ x5).cell? ⟨rs, 6, none⟩ = some z6 ∧ ((((((V.setCell ⟨rs, 0, none⟩ x0).setCell ⟨rs, 1, none⟩ x1).setCell ⟨rs, 2, none⟩ x2).setCell ⟨rs, 3, none⟩ x3).setCell ⟨rs, 4, none⟩ x4).setCell ⟨rs, 5, none⟩ x5).frozen? ⟨rs, 6, none⟩ = false ∧ (((((((V.setCell ⟨rs, 0, none⟩ x0).setCell ⟨rs, 1, none⟩ x1).setCell ⟨rs, 2, none⟩ x2).setCell ⟨rs, 3, none⟩ x3).setCell ⟨rs, 4, none⟩ x4).setCell ⟨rs, 5, none⟩ x5).setCell ⟨rs, 6, none⟩ x6).cell? ⟨rs, 7, none⟩ = some z7 ∧ (((((((V.setCell ⟨rs, 0, none⟩ x0).setCell ⟨rs, 1, none⟩ x1).setCell ⟨rs, 2, none⟩ x2).setCell ⟨rs, 3, none⟩ x3).setCell ⟨rs, 4, none⟩ x4).setCell ⟨rs, 5, none⟩ x5).setCell ⟨rs, 6, none⟩ x6).frozen? ⟨rs, 7, none⟩ = false ∧ ((((((((V.setCell ⟨rs, 0, none⟩ x0).setCell ⟨rs, 1, none⟩ x1).setCell ⟨rs, 2, none⟩ x2).setCell ⟨rs, 3, none⟩ x3).setCell ⟨rs, 4, none⟩ x4).setCell ⟨rs, 5, none⟩ x5).setCell ⟨rs, 6, none⟩ x6).setCell ⟨rs, 7, none⟩ x7).heap[rs]? = some (.cells #[x0, x1, x2, x3, x4, x5, x6, x7] T) ∧ Fr (fun k => k = rs) V ((((((((V.setCell ⟨rs, 0, none⟩ x0).setCell ⟨rs, 1, none⟩ x1).setCell ⟨rs, 2, none⟩ x2).setCell ⟨rs, 3, none⟩ x3).setCell ⟨rs, 4, none⟩ x4).setCell ⟨rs, 5, none⟩ x5).setCell ⟨rs, 6, none⟩ x6).setCell ⟨rs, 7, none⟩ x7) := by
  have r1 : (V.setCell ⟨rs, 0, none⟩ x0).heap[rs]? = some (.cells #[x0, z1, z2, z3, z4, z5, z6, z7] T) := row_set h 0 x0
  have f1 : Fr (fun k => k = rs) V (V.setCell ⟨rs, 0, none⟩ x0) := (Fr.refl _ _).setCell _ _ (.inl rfl)
  have r2 : ((V.setCell ⟨rs, 0, none⟩ x0).setCell ⟨rs, 1, none⟩ x1).heap[rs]? = some (.cells #[x0, x1, z2, z3, z4, z5, z6, z7] T) := row_set r1 1 x1
  have f2 : Fr (fun k => k = rs) V ((V.setCell ⟨rs, 0, none⟩ x0).setCell ⟨rs, 1, none⟩ x1) := f1.setCell _ _ (.inl rfl)
  have r3 : (((V.setCell ⟨rs, 0, none⟩ x0).setCell ⟨rs, 1, none⟩ x1).setCell ⟨rs, 2, none⟩ x2).heap[rs]? = some (.cells #[x0, x1, x2, z3, z4, z5, z6, z7] T) := row_set r2 2 x2
  have f3 : Fr (fun k => k = rs) V (((V.setCell ⟨rs, 0, none⟩ x0).setCell ⟨rs, 1, none⟩ x1).setCell ⟨rs, 2, none⟩ x2) := f2.setCell _ _ (.inl rfl)
  have r4 : ((((V.setCell ⟨rs, 0, none⟩ x0).setCell ⟨rs, 1, none⟩ x1).setCell ⟨rs, 2, none⟩ x2).setCell ⟨rs, 3, none⟩ x3).heap[rs]? = some (.cells #[x0, x1, x2, x3, z4, z5, z6, z7] T) := row_set r3 3 x3
  have f4 : Fr (fun k => k = rs) V ((((V.setCell ⟨rs, 0, none⟩ x0).setCell ⟨rs, 1, none⟩ x1).setCell ⟨rs, 2, none⟩ x2).setCell ⟨rs, 3, none⟩ x3) := f3.setCell _ _ (.inl rfl)
  have r5 : (((((V.setCell ⟨rs, 0, none⟩ x0).setCell ⟨rs, 1, none⟩ x1).setCell ⟨rs, 2, none⟩ x2).setCell ⟨rs, 3, none⟩ x3).setCell ⟨rs, 4, none⟩ x4).heap[rs]? = some (.cells #[x0, x1, x2, x3, x4, z5, z6, z7] T) := row_set r4 4 x4
  have f5 : Fr (fun k => k = rs) V (((((V.setCell ⟨rs, 0, none⟩ x0).setCell ⟨rs, 1, none⟩ x1).setCell ⟨rs, 2, none⟩ x2).setCell ⟨rs, 3, none⟩ x3).setCell ⟨rs, 4, none⟩ x4) := f4.setCell _ _ (.inl rfl)
  have r6 : ((((((V.setCell ⟨rs, 0, none⟩ x0).setCell ⟨rs, 1, none⟩ x1).setCell ⟨rs, 2, none⟩ x2).setCell ⟨rs, 3, none⟩ x3).setCell ⟨rs, 4, none⟩ x4).setCell ⟨rs, 5, none⟩ x5).heap[rs]? = some (.cells #[x0, x1, x2, x3, x4, x5, z6, z7] T) := row_set r5 5 x5
  have f6 : Fr (fun k => k = rs) V ((((((V.setCell ⟨rs, 0, none⟩ x0).setCell ⟨rs, 1, none⟩ x1).setCell ⟨rs, 2, none⟩ x2).setCell ⟨rs, 3, none⟩ x3).setCell ⟨rs, 4, none⟩ x4).setCell ⟨rs, 5, none⟩ x5) := f5.setCell _ _ (.inl rfl)
  have r7 : (((((((V.setCell ⟨rs, 0, none⟩ x0).setCell ⟨rs, 1, none⟩ x1).setCell ⟨rs, 2, none⟩ x2).setCell ⟨rs, 3, none⟩ x3).setCell ⟨rs, 4, none⟩ x4).setCell ⟨rs, 5, none⟩ x5).setCell ⟨rs, 6, none⟩ x6).heap[rs]? = some (.cells #[x0, x1, x2, x3, x4, x5, x6, z7] T) := row_set r6 6 x6
  have f7 : Fr (fun k => k = rs) V (((((((V.setCell ⟨rs, 0, none⟩ x0).setCell ⟨rs, 1, none⟩ x1).setCell ⟨rs, 2, none⟩ x2).setCell ⟨rs, 3, none⟩ x3).setCell ⟨rs, 4, none⟩ x4).setCell ⟨rs, 5, none⟩ x5).setCell ⟨rs, 6, none⟩ x6) := f6.setCell _ _ (.inl rfl)
  have r8 : ((((((((V.setCell ⟨rs, 0, none⟩ x0).setCell ⟨rs, 1, none⟩ x1).setCell ⟨rs, 2, none⟩ x2).setCell ⟨rs, 3, none⟩ x3).setCell ⟨rs, 4, none⟩ x4).setCell ⟨rs, 5, none⟩ x5).setCell ⟨rs, 6, none⟩ x6).setCell ⟨rs, 7, none⟩ x7).heap[rs]? = some (.cells #[x0, x1, x2, x3, x4, x5, x6, x7] T) := row_set r7 7 x7
  have f8 : Fr (fun k => k = rs) V ((((((((V.setCell ⟨rs, 0, none⟩ x0).setCell ⟨rs, 1, none⟩ x1).setCell ⟨rs, 2, none⟩ x2).setCell ⟨rs, 3, none⟩ x3).setCell ⟨rs, 4, none⟩ x4).setCell ⟨rs, 5, none⟩ x5).setCell ⟨rs, 6, none⟩ x6).setCell ⟨rs, 7, none⟩ x7) := f7.setCell _ _ (.inl rfl)
  exact ⟨(row_cell h 0 _ rfl).1, (row_cell h 0 z0 rfl).2, (row_cell r1 1 _ rfl).1, (row_cell r1 1 z1 rfl).2, (row_cell r2 2 _ rfl).1, (row_cell r2 2 z2 rfl).2, (row_cell r3 3 _ rfl).1, (row_cell r3 3 z3 rfl).2, (row_cell r4 4 _ rfl).1, (row_cell r4 4 z4 rfl).2, (row_cell r5 5 _ rfl).1, (row_cell r5 5 z5 rfl).2, (row_cell r6 6 _ rfl).1, (row_cell r6 6 z6 rfl).2, (row_cell r7 7 _ rfl).1, (row_cell r7 7 z7 rfl).2, r8, f8⟩
theorem VA_lt {V : World} {k : Nat} {x : Obj} (h : V.heap[k]? = some x) : k < V.heap.size := (Array.getElem?_eq_some_iff.1 h).1
/-- What One answers. -/
def OnA (b : List By) (most : Int) (w : World) (e : Ending) (w' : World) : Prop :=
  (∃ y, oneZ b most = .bad y ∧ y ≠ 0 ∧ e = .returned (.tuple #[.slice none 0 0, .agg zrow, .int .i64 0, .int .i64 (y : Nat)]) ∧ Nw w w') ∨
  (∃ out m n pa pc v, oneZ b most = .ok out m n ∧ e = .returned (.tuple #[.slice pa out.length pc, v, .int .i64 (n : Nat), .int .i64 0]) ∧ Mine (fun k => k < w.heap.size) (.slice pa out.length pc) out w' ∧ vM w.heap.size m v w' ∧ Nw w w' ∧ n ≤ b.length ∧ out.length ≤ 4194304)
set_option maxHeartbeats 16000000 in
set_option maxRecDepth 100000 in
theorem zone_any (w : World) (a : Option Addr) (c : Nat) (b : List By) (most : Int) (hb : Old w (.slice a b.length c) b) (hbl : b.length ≤ 140737488351232) (hT : TabT w) (hI : Tab w) (h0 : 0 < w.heap.size) :
    Calls Tryz.prog 19 #[.slice a b.length c, .int .i64 most] w (OnA b most w) := by
  obtain ⟨P, hP⟩ : ∃ P : Ending → World → Prop, P = OnA b most w := ⟨_, rfl⟩
  rw [← hP]
  obtain ⟨rs, hrs⟩ : ∃ rs, rs = w.heap.size := ⟨_, rfl⟩
  obtain ⟨W0, hW0⟩ : ∃ W0, w.alloc (.cells zrow 25) = W0 := ⟨_, rfl⟩
  have n0 : Nw w W0 := by rw [← hW0]; exact (Fr.refl _ _).alloc _
  have rm : W0.heap[rs]? = some (.cells zrow 25) := by rw [← hW0, hrs]; exact new_heap _ _
  have s0 : W0.heap.size = w.heap.size + 1 := by rw [← hW0]; simp
  have HBD : Hid (∀ y V, oneZ b most = .bad y → y ≠ 0 → Nw W0 V → V.heap[rs]? = some (.cells zrow 25) ∧ (V.setRow rs zrow).heap[rs]? = some (.cells zrow 25) ∧ P (.returned (.tuple #[.slice none 0 0, .agg zrow, .int .i64 0, .int .i64 (y : Nat)])) (V.setRow rs zrow)) := fun y V hy hy0 f => by
    have m1 := f.heap rm
    have fx : Fr (fun k => k = rs) V (V.setRow rs zrow) := (Fr.refl _ _).setRow _ _ (.inl rfl)
    refine ⟨m1, setRow_heap V _ _ _ 25 _ m1, ?_⟩
    rw [hP]
    exact .inl ⟨y, hy, hy0, rfl, (n0.trans f).then fx (fun i hi => .inr (by omega))⟩
  by_cases hm : most < 0 ∨ 4194304 < most
  · obtain ⟨m1, m2, m3⟩ := HBD.out 1 W0 (by unfold oneZ; rw [if_pos hm]) (by decide) (Fr.refl _ _)
    have HF := toHid2 m3
    have HR := toHid2 m2
    clear hP hb hT hI HBD n0 rm s0 m3 m2
    generalize b.length = L at *
    rcases hm with hm | hm
    · go_enter Tryz.func19, Tryz.ntmps19
      go_upto_region 2 with fail
      change Code.wp _ _ _ _ (w.alloc (.cells zrow 25))
      rw [hW0, ← hrs]
      clear hrs hW0
      go_wp2_with (first
        | (refine wpList_store_row rfl 25 _ _ rfl rs #[.string ⟨#[]⟩, .string ⟨#[]⟩, .slice none 0 0, .int .u32 0, .int .u8 0, .int .u8 0, .bool false, .bool false] (by simp [Act.eval]) (by simp [Act.eval]) 25 _ m1 (by kernel_rfl) rfl (by simp [Value.oneCell']) ?_))
      exact oret (v4 := .slice none 0 0) (v6 := .int .i64 0) (v7 := .int .i64 (1 : Nat)) rs (by first | rfl | simp [Act.put]) (by first | rfl | simp [Act.put]) (by first | rfl | simp [Act.put]) (by first | rfl | simp [Act.put]) HR.out rfl rfl HF.out
    · have h0' : ¬ most < 0 := by omega
      go_enter Tryz.func19, Tryz.ntmps19
      go_upto_region 2 with fail
      change Code.wp _ _ _ _ (w.alloc (.cells zrow 25))
      rw [hW0, ← hrs]
      clear hrs hW0
      go_wp2_with (first
        | (refine wpList_store_row rfl 25 _ _ rfl rs #[.string ⟨#[]⟩, .string ⟨#[]⟩, .slice none 0 0, .int .u32 0, .int .u8 0, .int .u8 0, .bool false, .bool false] (by simp [Act.eval]) (by simp [Act.eval]) 25 _ m1 (by kernel_rfl) rfl (by simp [Value.oneCell']) ?_))
      exact oret (v4 := .slice none 0 0) (v6 := .int .i64 0) (v7 := .int .i64 (1 : Nat)) rs (by first | rfl | simp [Act.put]) (by first | rfl | simp [Act.put]) (by first | rfl | simp [Act.put]) (by first | rfl | simp [Act.put]) HR.out rfl rfl HF.out
  · have z0 : ¬ most < 0 := by omega
    have z1 : ¬ 4194304 < most := by omega
    have HRH : Hid (Calls Tryz.prog 39 #[.slice a b.length c] W0 (RhA b W0)) := zreadHead_any W0 a c b (Sl.later hb n0) hbl (hT.nw n0) (by omega)
    have HO : Hid (oneZ b most = match headH b 0 with
      | .bad y => .bad y
      | .ok m n => if (idec (b.drop n) most).2.2 ≠ 0 then .bad (idec (b.drop n) most).2.2 else
          if chkZ (b.drop (n + (idec (b.drop n) most).2.1)) (idec (b.drop n) most).1 ≠ 0 then .bad (chkZ (b.drop (n + (idec (b.drop n) most).2.1)) (idec (b.drop n) most).1)
          else .ok (idec (b.drop n) most).1 m (n + (idec (b.drop n) most).2.1 + 8)) := by show _ = _; unfold oneZ; first | (rw [if_neg hm]; done) | (rw [if_neg hm]; cases headH b 0 <;> rfl)
    have HB : Hid (Old w (.slice a b.length c) b ∧ TabT w ∧ Tab w ∧ Nw w W0 ∧ rs = w.heap.size ∧ W0.heap.size = w.heap.size + 1) := ⟨hb, hT, hI, n0, hrs, s0⟩
    have HP : Hid (P = OnA b most w) := hP
    have HRM : Hid (W0.heap[rs]? = some (.cells zrow 25)) := rm
    obtain ⟨L, hL⟩ : ∃ L, b.length = L := ⟨_, rfl⟩
    have HLL : Hid (b.length = L) := hL
    rw [hL] at hbl HRH ⊢
    clear hL hP hb hT hI n0 s0 rm hm
    go_enter Tryz.func19, Tryz.ntmps19
    go_upto_region 3 with fail
    change Code.wp _ _ _ _ (w.alloc (.cells zrow 25))
    rw [hW0, ← hrs]
    clear hrs hW0
    go_wp2_with fail
    go_at_call 39
    with_reducible refine HRH.out.mono ?_
    unfold RhA
    rintro e V (⟨y, hy, rfl, hN⟩ | ⟨m, n, v, hy, rfl, hv, hN, hnL⟩)
    · unfold zrow
      have hy0 : y ≠ 0 := head_nz b 0 y hy
      have nA : Nw V (V.alloc (.cells zrow 25)) := (Fr.refl _ _).alloc _
      obtain ⟨m1, m2, m3⟩ := HBD.out y (V.alloc (.cells zrow 25)) (by rw [HO.out, hy]) hy0 (hN.trans nA)
      have HF := toHid2 m3
      have HR := toHid2 m2
      have hz2 : ((y : Int) != 0) = true := by simp only [bne_iff_ne, ne_eq]; omega
      clear HBD HO HB HP HRM HRH hN nA hy hy0 m2 m3 HLL
      go_upto_region 5 with fail
      change Code.wp _ _ _ _ (V.alloc (.cells zrow 25))
      go_wp2_with (first
        | (refine wpList_store_row rfl 25 _ _ rfl rs #[.string ⟨#[]⟩, .string ⟨#[]⟩, .slice none 0 0, .int .u32 0, .int .u8 0, .int .u8 0, .bool false, .bool false] (by simp [Act.eval]) (by simp [Act.eval]) 25 _ m1 (by kernel_rfl) rfl (by simp [Value.oneCell']) ?_))
      exact oret (v4 := .slice none 0 0) (v6 := .int .i64 0) (v7 := .int .i64 (y : Nat)) rs (by first | rfl | simp [Act.put]) (by first | rfl | simp [Act.put]) (by first | rfl | simp [Act.put]) (by first | rfl | simp [Act.put]) HR.out rfl rfl HF.out
    · obtain ⟨ea, en, ec, hveq, hen, hmi⟩ := hv
      have hpos : 0 < b.length := head_pos hy
      obtain ⟨nmv, hnmv⟩ : ∃ x, x = str m.nm := ⟨_, rfl⟩
      obtain ⟨cmv, hcmv⟩ : ∃ x, x = str m.cm := ⟨_, rfl⟩
      obtain ⟨tm, htm⟩ : ∃ x, x = m.tm := ⟨_, rfl⟩
      obtain ⟨F, hF⟩ : ∃ x, x = m.fl.toNat := ⟨_, rfl⟩
      obtain ⟨S, hS⟩ : ∃ x, x = m.sy.toNat := ⟨_, rfl⟩
      obtain ⟨tx, htx⟩ : ∃ x, x = m.tx := ⟨_, rfl⟩
      obtain ⟨sm, hsm⟩ : ∃ x, x = m.sm := ⟨_, rfl⟩
      have HV : Hid (v = .agg #[.string nmv, .string cmv, .slice ea en ec, .int .u32 (tm : Nat), .int .u8 (F : Nat), .int .u8 (S : Nat), .bool tx, .bool sm] ∧ en = m.ex.length ∧ Mine (fun k => k < W0.heap.size) (.slice ea en ec) m.ex V ∧ nmv = str m.nm ∧ cmv = str m.cm ∧ tm = m.tm ∧ F = m.fl.toNat ∧ S = m.sy.toNat ∧ tx = m.tx ∧ sm = m.sm) := ⟨by rw [hveq, hnmv, hcmv, htm, hF, hS, htx, hsm], hen, hmi, hnmv, hcmv, htm, hF, hS, htx, hsm⟩
      rw [← hnmv, ← hcmv, ← htm, ← hF, ← hS, ← htx, ← hsm] at hveq
      subst hveq
      clear hnmv hcmv htm hF hS htx hsm hen hmi
      -- the program's bytes
      obtain ⟨g, o, rfl, hLc, hc2, hpart⟩ := sl_part (HB.out.1) hpos
      have nA : Nw V (V.alloc (.cells #[.string nmv, .string cmv, .slice ea en ec, .int .u32 (tm : Nat), .int .u8 (F : Nat), .int .u8 (S : Nat), .bool tx, .bool sm] 25)) := (Fr.refl _ _).alloc _
      have NV : Hid (Nw W0 (V.alloc (.cells #[.string nmv, .string cmv, .slice ea en ec, .int .u32 (tm : Nat), .int .u8 (F : Nat), .int .u8 (S : Nat), .bool tx, .bool sm] 25))) := hN.trans nA
      have MB : Hid ((V.alloc (.cells #[.string nmv, .string cmv, .slice ea en ec, .int .u32 (tm : Nat), .int .u8 (F : Nat), .int .u8 (S : Nat), .bool tx, .bool sm] 25)).heap[V.heap.size]? = some (.cells #[.string nmv, .string cmv, .slice ea en ec, .int .u32 (tm : Nat), .int .u8 (F : Nat), .int .u8 (S : Nat), .bool tx, .bool sm] 25)) := new_heap _ _
      have HVs : Hid (W0.heap.size ≤ V.heap.size) := hN.size
      have HMI : Hid (Mine (fun k => k < W0.heap.size) (.slice ea en ec) m.ex (V.alloc (.cells #[.string nmv, .string cmv, .slice ea en ec, .int .u32 (tm : Nat), .int .u8 (F : Nat), .int .u8 (S : Nat), .bool tx, .bool sm] 25))) := HV.out.2.2.1.nw nA
      obtain ⟨out, ho⟩ : ∃ out, out = (idec (b.drop n) most).1 := ⟨_, rfl⟩
      obtain ⟨k, hk⟩ : ∃ k, k = (idec (b.drop n) most).2.1 := ⟨_, rfl⟩
      obtain ⟨y, hyy⟩ : ∃ y, y = (idec (b.drop n) most).2.2 := ⟨_, rfl⟩
      have hol : out.length ≤ 4194304 := by rw [ho]; exact idec_out _ _
      have hkl : k ≤ b.length - n := by rw [hk]; have := idec_at (b.drop n) most; rw [List.length_drop] at this; exact this
      have HO2 : Hid (oneZ b most = if y ≠ 0 then .bad y else if chkZ (b.drop (n + k)) out ≠ 0 then .bad (chkZ (b.drop (n + k)) out) else .ok out m (n + k + 8)) := by show _ = _; rw [HO.out, hy, ho, hk, hyy]
      have HID : Hid (∀ v, Old (V.alloc (.cells #[.string nmv, .string cmv, .slice ea en ec, .int .u32 (tm : Nat), .int .u8 (F : Nat), .int .u8 (S : Nat), .bool tx, .bool sm] 25)) v (b.drop n) → Calls Tryz.prog 40 #[v, .int .i64 most] (V.alloc (.cells #[.string nmv, .string cmv, .slice ea en ec, .int .u32 (tm : Nat), .int .u8 (F : Nat), .int .u8 (S : Nat), .bool tx, .bool sm] 25)) fun e w2 => ∃ pa pc, e = .returned (.tuple #[.slice pa out.length pc, .int .i64 (k : Nat), .int .i64 (y : Nat)]) ∧ Hid (Nw (V.alloc (.cells #[.string nmv, .string cmv, .slice ea en ec, .int .u32 (tm : Nat), .int .u8 (F : Nat), .int .u8 (S : Nat), .bool tx, .bool sm] 25)) w2 ∧ Mine (fun j => j < (V.alloc (.cells #[.string nmv, .string cmv, .slice ea en ec, .int .u32 (tm : Nat), .int .u8 (F : Nat), .int .u8 (S : Nat), .bool tx, .bool sm] 25)).heap.size) (.slice pa out.length pc) out w2)) := fun v hv => by
        refine (idecode_any _ v (b.drop n) most hv (by rw [List.length_drop, HLL.out]; omega) (HB.out.2.2.1.kept (HB.out.2.2.2.1.trans NV.out) (fun e => e))).mono ?_
        rintro e w2 ⟨pa, pc, rfl, hM, hN2⟩
        rw [← ho, ← hk, ← hyy] at *
        exact ⟨pa, pc, rfl, hN2, hM⟩
      have HPOS : Hid (0 < b.length) := hpos
      clear ho hk hyy hy hN nA hpos HO HRH
      rw [HLL.out] at hLc hkl hnL
      have HSL : Hid (∀ V2, Nw W0 V2 → ∀ q, q ≤ L → (c = q → ∀ x, Old V2 (.slice x (L - q) 0) (b.drop q)) ∧ Old V2 (.slice (some ⟨g, o + q, none⟩) (L - q) (c - q)) (b.drop q)) := fun V2 hV2 q hq => by
        have hold : Old V2 (.slice (some ⟨g, o, none⟩) b.length c) b := Sl.later HB.out.1 (HB.out.2.2.2.1.trans hV2)
        have hbl2 := HLL.out
        refine ⟨fun e x => .inl ⟨x, by rw [show L - q = 0 by omega], List.drop_eq_nil_of_le (by omega)⟩, ?_⟩
        obtain ⟨g', o', e, _, _, h3⟩ := sl_part hold HPOS.out
        injection e with e
        injection e with e1 e2
        subst e1 e2
        have := h3 q (L - q) (by omega)
        rw [List.take_of_length_le (by rw [List.length_drop]; omega)] at this
        exact this
      go_upto_region 6 with fail
      generalize V.alloc (.cells #[.string nmv, .string cmv, .slice ea en ec, .int .u32 (tm : Nat), .int .u8 (F : Nat), .int .u8 (S : Nat), .bool tx, .bool sm] 25) = VA at *
      generalize V.heap.size = mb at *
      have za : (n : Int) ≤ (L : Int) := by omega
      have zb : (L : Int) ≤ (c : Int) := by omega
      go_cut [10, 11, 12] (fun v10 v11 v12 wx => ∃ pa pc, v10 = .int .i64 (y : Nat) ∧ v11 = .slice pa out.length pc ∧ v12 = .int .i64 (k : Nat) ∧ Hid (Nw VA wx ∧ Mine (fun j => j < VA.heap.size) (.slice pa out.length pc) out wx))
      case first =>
        by_cases hcn : c ≤ n
        · have HD := toHid2 (fun x => HID.out (.slice x (L - n) 0) ((HSL.out VA NV.out n hnL).1 (by omega) x))
          clear HID HSL HBD HO2 HB HP HRM NV MB HMI HV HVs HPOS HLL hpart
          generalize out.length = OL at *
          go_wp2_with (first | (go_at_call 40; with_reducible refine (HD.out _).mono ?_; rintro e w2 ⟨pa, pc, rfl, HG⟩))
          go_meet
          exact ⟨pa, pc, rfl, rfl, rfl, HG⟩
        · have HD := toHid2 (HID.out _ (HSL.out VA NV.out n hnL).2)
          clear HID HSL HBD HO2 HB HP HRM NV MB HMI HV HVs HPOS HLL hpart
          generalize out.length = OL at *
          go_wp2_with (first | (go_at_call 40; with_reducible refine HD.out.mono ?_; rintro e w2 ⟨pa, pc, rfl, HG⟩))
          go_meet
          exact ⟨pa, pc, rfl, rfl, rfl, HG⟩
      case rest =>
      obtain ⟨pa, pc, rfl, rfl, rfl, HQ⟩ := hcut
      clear HID
      by_cases hy0 : y = 0
      · subst hy0
        obtain ⟨Q, hQ⟩ : ∃ Q, Q = n + k := ⟨_, rfl⟩
        have hQL : Q ≤ L := by omega
        rw [← hQ] at HO2
        obtain ⟨ch, hch⟩ : ∃ ch, ch = chkZ (b.drop Q) out := ⟨_, rfl⟩
        rw [← hch] at HO2
        have HCK : Hid (∀ a1 c1, Old wc (.slice a1 (L - Q) c1) (b.drop Q) → Calls Tryz.prog 41 #[.slice a1 (L - Q) c1, .slice pa out.length pc] wc fun e w' => e = .returned (.int .i64 (ch : Nat)) ∧ wc = w') := fun a1 c1 h1 => by
          have hll : (b.drop Q).length = L - Q := by rw [List.length_drop, HLL.out]
          have := zcheck_any wc a1 c1 (b.drop Q) (by rw [hll]; exact h1) pa pc out HQ.out.2.old hol (HB.out.2.1.nw (HB.out.2.2.2.1.trans (NV.out.trans HQ.out.1)))
          rw [hll, ← hch] at this
          exact this
        have HS1 := HSL.out wc (NV.out.trans HQ.out.1) Q hQL
        have HSA : Hid (c ≤ Q → ∀ x, Old wc (.slice x (L - Q) 0) (b.drop Q)) := fun e x => HS1.1 (by omega) x
        have HSB : Hid (Old wc (.slice (some ⟨g, o + Q, none⟩) (L - Q) (c - Q)) (b.drop Q)) := HS1.2
        have hsum : (n : Int) + (k : Int) = (Q : Int) := by omega
        have HNQ : Hid (Q = n + k) := hQ
        have HCH : Hid (ch = chkZ (b.drop Q) out) := hch
        clear hch HS1 HSL hQ
        have zq1 : (Q : Int) ≤ (L : Int) := by omega
        go_upto_region 10 with fail
        go_cut [14] (fun v wx => v = .int .i64 (ch : Nat) ∧ wx = wc)
        case first =>
          by_cases hcQ : c ≤ Q
          · have HD := toHid2 (fun x => HCK.out x 0 (HSA.out hcQ x))
            clear HCK HSA HSB HBD HO2 HB HP HRM NV MB HMI HV HVs HPOS HLL hpart HQ HNQ HCH
            generalize out.length = OL at *
            go_wp2_with (first | (go_at_call 41; with_reducible refine (HD.out _).mono ?_; rintro e w2 ⟨rfl, rfl⟩))
            go_meet
            exact ⟨rfl, rfl⟩
          · have HD := toHid2 (HCK.out _ _ HSB.out)
            clear HCK HSA HSB HBD HO2 HB HP HRM NV MB HMI HV HVs HPOS HLL hpart HQ HNQ HCH
            generalize out.length = OL at *
            go_wp2_with (first | (go_at_call 41; with_reducible refine HD.out.mono ?_; rintro e w2 ⟨rfl, rfl⟩))
            go_meet
            exact ⟨rfl, rfl⟩
        case rest =>
        obtain ⟨rfl, rfl⟩ := hcut
        clear HCK HSA HSB
        by_cases hc0 : ch = 0
        · subst hc0
          have nW := NV.out.trans HQ.out.1
          have m1 := nW.heap HRM.out
          have mbr := HQ.out.1.heap MB.out
          have hne : mb ≠ rs := by
            have h1 := HB.out.2.2.2.2
            have h2 := HVs.out
            omega
          obtain ⟨u0, v0, u1, v1, u2, v2, u3, v3, u4, v4, u5, v5, u6, v6, u7, v7, r8, f8⟩ := set8 (V := wc) m1 (.string nmv) (.string cmv) (.slice ea en ec) (.int .u32 (tm : Nat)) (.int .u8 (F : Nat)) (.int .u8 (S : Nat)) (.bool tx) (.bool sm)
          obtain ⟨U1, hU1⟩ : ∃ U, wc.setCell ⟨rs, 0, none⟩ (.string nmv) = U := ⟨_, rfl⟩
          rw [hU1] at u1 v1 u2 v2 u3 v3 u4 v4 u5 v5 u6 v6 u7 v7 r8 f8
          obtain ⟨U2, hU2⟩ : ∃ U, U1.setCell ⟨rs, 1, none⟩ (.string cmv) = U := ⟨_, rfl⟩
          rw [hU2] at u2 v2 u3 v3 u4 v4 u5 v5 u6 v6 u7 v7 r8 f8
          obtain ⟨U3, hU3⟩ : ∃ U, U2.setCell ⟨rs, 2, none⟩ (.slice ea en ec) = U := ⟨_, rfl⟩
          rw [hU3] at u3 v3 u4 v4 u5 v5 u6 v6 u7 v7 r8 f8
          obtain ⟨U4, hU4⟩ : ∃ U, U3.setCell ⟨rs, 3, none⟩ (.int .u32 (tm : Nat)) = U := ⟨_, rfl⟩
          rw [hU4] at u4 v4 u5 v5 u6 v6 u7 v7 r8 f8
          obtain ⟨U5, hU5⟩ : ∃ U, U4.setCell ⟨rs, 4, none⟩ (.int .u8 (F : Nat)) = U := ⟨_, rfl⟩
          rw [hU5] at u5 v5 u6 v6 u7 v7 r8 f8
          obtain ⟨U6, hU6⟩ : ∃ U, U5.setCell ⟨rs, 5, none⟩ (.int .u8 (S : Nat)) = U := ⟨_, rfl⟩
          rw [hU6] at u6 v6 u7 v7 r8 f8
          obtain ⟨U7, hU7⟩ : ∃ U, U6.setCell ⟨rs, 6, none⟩ (.bool tx) = U := ⟨_, rfl⟩
          rw [hU7] at u7 v7 r8 f8
          obtain ⟨U8, hU8⟩ : ∃ U, U7.setCell ⟨rs, 7, none⟩ (.bool sm) = U := ⟨_, rfl⟩
          rw [hU8] at r8 f8
          have mb8 := row_kept mbr f8 hne
          have HF : Hid (∀ U, Nw U8 U → P (.returned (.tuple #[.slice pa out.length pc, .agg #[.string nmv, .string cmv, .slice ea en ec, .int .u32 (tm : Nat), .int .u8 (F : Nat), .int .u8 (S : Nat), .bool tx, .bool sm], .int .i64 (Q + 8 : Nat), .int .i64 0])) U) := fun U hU => by
            rw [HP.out]
            have hb1 := HB.out.2.2.2.2
            have nU : Nw w U := ((HB.out.2.2.2.1.trans nW).then f8 (fun i hi => .inr (by omega))).trans hU
            have hvs := VA_lt mbr
            refine .inr ⟨out, m, Q + 8, pa, pc, _, by rw [HO2.out, if_neg (by simp), if_neg (by simp)], rfl, ?_, ⟨ea, en, ec, ?_, HV.out.2.1, ?_⟩, nU, ?_, hol⟩
            · have hva := NV.out.size
              exact ((HQ.out.2.kept f8 (fun i hi => .inl (by omega))).nw hU).more (fun i hi => .inl (by omega))
            · obtain ⟨_, _, _, q1, q2, q3, q4, q5, q6, q7⟩ := HV.out
              rw [q1, q2, q3, q4, q5, q6, q7]
            · exact (((HMI.out.nw HQ.out.1).kept f8 (fun i hi => .inl (by omega))).nw hU).more (fun i hi => .inl (by omega))
            · have h9 := HCH.out
              unfold chkZ at h9
              split at h9
              · cases h9
              · rename_i h8
                rw [List.length_drop] at h8
                have := HLL.out
                omega
          obtain ⟨Q8, hQ8⟩ : ∃ Q8, Q8 = Q + 8 := ⟨_, rfl⟩
          rw [← hQ8] at HF
          have q8 : (Q : Int) + 8 = (Q8 : Int) := by omega
          have uq : IntKind.i64.wrap (Q8 : Int) = (Q8 : Int) := by rw [IntKind.wrap_i64]; omega
          have HR8 : Hid (U8.drew.heap[rs]? = some (.cells #[.string nmv, .string cmv, .slice ea en ec, .int .u32 (tm : Nat), .int .u8 (F : Nat), .int .u8 (S : Nat), .bool tx, .bool sm] 25)) := r8
          have c0 : wc.cell? ⟨mb, 0, none⟩ = some (.string nmv) := (row_cell mbr 0 _ rfl).1
          have t0 : wc.drew.cell? ⟨mb, 0, none⟩ = some (.string nmv) := (row_cell mbr 0 _ rfl).1
          have w0 : U8.drew.cell? ⟨mb, 0, none⟩ = some (.string nmv) := (row_cell mb8 0 _ rfl).1
          have c1 : wc.cell? ⟨mb, 1, none⟩ = some (.string cmv) := (row_cell mbr 1 _ rfl).1
          have t1 : wc.drew.cell? ⟨mb, 1, none⟩ = some (.string cmv) := (row_cell mbr 1 _ rfl).1
          have w1 : U8.drew.cell? ⟨mb, 1, none⟩ = some (.string cmv) := (row_cell mb8 1 _ rfl).1
          have c2 : wc.cell? ⟨mb, 2, none⟩ = some (.slice ea en ec) := (row_cell mbr 2 _ rfl).1
          have t2 : wc.drew.cell? ⟨mb, 2, none⟩ = some (.slice ea en ec) := (row_cell mbr 2 _ rfl).1
          have w2 : U8.drew.cell? ⟨mb, 2, none⟩ = some (.slice ea en ec) := (row_cell mb8 2 _ rfl).1
          have c3 : wc.cell? ⟨mb, 3, none⟩ = some (.int .u32 (tm : Nat)) := (row_cell mbr 3 _ rfl).1
          have t3 : wc.drew.cell? ⟨mb, 3, none⟩ = some (.int .u32 (tm : Nat)) := (row_cell mbr 3 _ rfl).1
          have w3 : U8.drew.cell? ⟨mb, 3, none⟩ = some (.int .u32 (tm : Nat)) := (row_cell mb8 3 _ rfl).1
          have c4 : wc.cell? ⟨mb, 4, none⟩ = some (.int .u8 (F : Nat)) := (row_cell mbr 4 _ rfl).1
          have t4 : wc.drew.cell? ⟨mb, 4, none⟩ = some (.int .u8 (F : Nat)) := (row_cell mbr 4 _ rfl).1
          have w4 : U8.drew.cell? ⟨mb, 4, none⟩ = some (.int .u8 (F : Nat)) := (row_cell mb8 4 _ rfl).1
          have c5 : wc.cell? ⟨mb, 5, none⟩ = some (.int .u8 (S : Nat)) := (row_cell mbr 5 _ rfl).1
          have t5 : wc.drew.cell? ⟨mb, 5, none⟩ = some (.int .u8 (S : Nat)) := (row_cell mbr 5 _ rfl).1
          have w5 : U8.drew.cell? ⟨mb, 5, none⟩ = some (.int .u8 (S : Nat)) := (row_cell mb8 5 _ rfl).1
          have c6 : wc.cell? ⟨mb, 6, none⟩ = some (.bool tx) := (row_cell mbr 6 _ rfl).1
          have t6 : wc.drew.cell? ⟨mb, 6, none⟩ = some (.bool tx) := (row_cell mbr 6 _ rfl).1
          have w6 : U8.drew.cell? ⟨mb, 6, none⟩ = some (.bool tx) := (row_cell mb8 6 _ rfl).1
          have c7 : wc.cell? ⟨mb, 7, none⟩ = some (.bool sm) := (row_cell mbr 7 _ rfl).1
          have t7 : wc.drew.cell? ⟨mb, 7, none⟩ = some (.bool sm) := (row_cell mbr 7 _ rfl).1
          have w7 : U8.drew.cell? ⟨mb, 7, none⟩ = some (.bool sm) := (row_cell mb8 7 _ rfl).1
          clear HBD HO2 HB HP HRM NV MB HMI HV HVs HPOS HLL hpart HQ HNQ HCH r8 f8 mb8 mbr m1 nW hQ8
          generalize out.length = OL at *
          go_upto_region 13 with fail
          go_region_held3 (fun W => W.cell? ⟨mb, 0, none⟩ = some (.string nmv) ∧ W.cell? ⟨mb, 1, none⟩ = some (.string cmv) ∧ W.cell? ⟨mb, 2, none⟩ = some (.slice ea en ec) ∧ W.cell? ⟨mb, 3, none⟩ = some (.int .u32 (tm : Nat)) ∧ W.cell? ⟨mb, 4, none⟩ = some (.int .u8 (F : Nat)) ∧ W.cell? ⟨mb, 5, none⟩ = some (.int .u8 (S : Nat)) ∧ W.cell? ⟨mb, 6, none⟩ = some (.bool tx) ∧ W.cell? ⟨mb, 7, none⟩ = some (.bool sm))
            (first | assumption | (refine ⟨?_, ?_, ?_, ?_, ?_, ?_, ?_, ?_⟩ <;> assumption))
            (fail)
          all_goals go_wp2_with fail
          all_goals exact oret (v4 := .slice pa OL pc) (v6 := .int .i64 (Q8 : Nat)) (v7 := .int .i64 0) rs (by first | rfl | simp [Act.put]) (by first | rfl | simp [Act.put]) (by first | rfl | simp [Act.put]) (by first | rfl | simp [Act.put]) HR8.out rfl rfl (HF.out _ ((Fr.refl _ _).drew))
        · obtain ⟨m1, m2, m3⟩ := HBD.out ch wc (by rw [HO2.out, if_neg (by simp), if_pos hc0]) hc0 (NV.out.trans HQ.out.1)
          have HF := toHid2 m3
          have HR := toHid2 m2
          have hz2 : ((ch : Int) != 0) = true := by simp only [bne_iff_ne, ne_eq]; omega
          clear HBD HO2 HB HP HRM NV MB HMI HV HVs HPOS HLL hpart HQ m2 m3 HNQ HCH
          generalize out.length = OL at *
          go_wp2_with (first
            | (refine wpList_store_row rfl 25 _ _ rfl rs #[.string ⟨#[]⟩, .string ⟨#[]⟩, .slice none 0 0, .int .u32 0, .int .u8 0, .int .u8 0, .bool false, .bool false] (by simp [Act.eval]) (by simp [Act.eval]) 25 _ m1 (by kernel_rfl) rfl (by simp [Value.oneCell']) ?_))
          exact oret (v4 := .slice none 0 0) (v6 := .int .i64 0) (v7 := .int .i64 (ch : Nat)) rs (by first | rfl | simp [Act.put]) (by first | rfl | simp [Act.put]) (by first | rfl | simp [Act.put]) (by first | rfl | simp [Act.put]) HR.out rfl rfl HF.out
      · obtain ⟨m1, m2, m3⟩ := HBD.out y wc (by rw [HO2.out, if_pos hy0]) hy0 (NV.out.trans HQ.out.1)
        have HF := toHid2 m3
        have HR := toHid2 m2
        have hz2 : ((y : Int) != 0) = true := by simp only [bne_iff_ne, ne_eq]; omega
        clear HBD HO2 HB HP HRM NV MB HMI HV HVs HPOS HLL hpart HSL HQ m2 m3
        generalize out.length = OL at *
        go_wp2_with (first
          | (refine wpList_store_row rfl 25 _ _ rfl rs #[.string ⟨#[]⟩, .string ⟨#[]⟩, .slice none 0 0, .int .u32 0, .int .u8 0, .int .u8 0, .bool false, .bool false] (by simp [Act.eval]) (by simp [Act.eval]) 25 _ m1 (by kernel_rfl) rfl (by simp [Value.oneCell']) ?_))
        exact oret (v4 := .slice none 0 0) (v6 := .int .i64 0) (v7 := .int .i64 (y : Nat)) rs (by first | rfl | simp [Act.put]) (by first | rfl | simp [Act.put]) (by first | rfl | simp [Act.put]) (by first | rfl | simp [Act.put]) HR.out rfl rfl HF.out
end Go.Proofs.YtpjnbhflnbhnoaaGreatDoor
