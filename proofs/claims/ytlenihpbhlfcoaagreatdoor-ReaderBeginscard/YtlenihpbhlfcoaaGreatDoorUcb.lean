import Derived.Test.YtlenihpbhlfcoaaGreatDoorUbx
set_option maxHeartbeats 8000000
set_option maxRecDepth 100000
set_option linter.unusedSimpArgs false
set_option linter.unusedVariables false
namespace Go.Proofs.YtlenihpbhlfcoaaGreatDoor
open Go.RowKit Go.Deep
set_option maxRecDepth 100000
def entL16 (n : ByteArray) (k md ud gd tm nn : Int) (us gr lk : ByteArray) (sz ty : Int) : List Value := [.string n, .int .i64 k, .int .u32 md, .int .u32 ud, .int .u32 gd, .int .i64 tm, .int .i32 nn, .string us, .string gr, .string lk, .int .i64 sz, .int .u8 ty]
theorem neqEnt (n : ByteArray) (k md ud gd tm nn : Int) (us gr lk : ByteArray) (sz ty : Int) (w : World) : (binOp BinOp.neq 32 (.agg (entL16 n k md ud gd tm nn us gr lk sz ty).toArray) (.agg (entL16 n k md ud gd tm nn us gr lk sz ty).toArray)).run Tryz.prog w = .ok (.bool false) w := by
 have u2 := Tryz.underlying2
 have u3 := Tryz.underlying3
 have u5 := Tryz.underlying5
 have u9 := Tryz.underlying9
 have hS : Tryz.prog.underlying 32 = some (.struct (Tryz.prog.fieldsOf 32)) := by kernel_rfl
 have he : (Op.equalIn 10000 32 (.agg (entL16 n k md ud gd tm nn us gr lk sz ty).toArray) (.agg (entL16 n k md ud gd tm nn us gr lk sz ty).toArray)).run Tryz.prog w = .ok true w := by
  unfold entL16
  rw [show (10000 : Nat) = 9999 + 1 from rfl, run_equalIn_agg w 9999 32 _ _ hS (by kernel_rfl)]
  simp only [Program.fieldsOf, Tryz.underlying32]
  go_simp
 have he' : (Op.equalIn Op.maxDepth 32 (.agg (entL16 n k md ud gd tm nn us gr lk sz ty).toArray) (.agg (entL16 n k md ud gd tm nn us gr lk sz ty).toArray)).run Tryz.prog w = .ok true w := he
 simp [binOp, Op.equal, he']
theorem neqRg (a b : Int) (w : World) : (binOp BinOp.neq 54 (.agg #[.int .i64 a, .int .i64 b]) (.agg #[.int .i64 a, .int .i64 b])).run Tryz.prog w = .ok (.bool false) w := by
 have u2 := Tryz.underlying2
 have hS : Tryz.prog.underlying 54 = some (.struct (Tryz.prog.fieldsOf 54)) := by kernel_rfl
 have he : (Op.equalIn 10000 54 (.agg #[.int .i64 a, .int .i64 b]) (.agg #[.int .i64 a, .int .i64 b])).run Tryz.prog w = .ok true w := by
  rw [show (10000 : Nat) = 9999 + 1 from rfl, run_equalIn_agg w 9999 54 _ _ hS (by kernel_rfl)]
  simp only [Program.fieldsOf, Tryz.underlying54]
  go_simp
 have he' : (Op.equalIn Op.maxDepth 54 (.agg #[.int .i64 a, .int .i64 b]) (.agg #[.int .i64 a, .int .i64 b])).run Tryz.prog w = .ok true w := he
 simp [binOp, Op.equal, he']
theorem neqPr (a b : ByteArray) (w : World) : (binOp BinOp.neq 56 (.agg #[.string a, .string b]) (.agg #[.string a, .string b])).run Tryz.prog w = .ok (.bool false) w := by
 have u9 := Tryz.underlying9
 have hS : Tryz.prog.underlying 56 = some (.struct (Tryz.prog.fieldsOf 56)) := by kernel_rfl
 have he : (Op.equalIn 10000 56 (.agg #[.string a, .string b]) (.agg #[.string a, .string b])).run Tryz.prog w = .ok true w := by
  rw [show (10000 : Nat) = 9999 + 1 from rfl, run_equalIn_agg w 9999 56 _ _ hS (by kernel_rfl)]
  simp only [Program.fieldsOf, Tryz.underlying56]
  go_simp
 have he' : (Op.equalIn Op.maxDepth 56 (.agg #[.string a, .string b]) (.agg #[.string a, .string b])).run Tryz.prog w = .ok true w := he
 simp [binOp, Op.equal, he']
def neE16 (x y : Value) : Sem Value := binOp BinOp.neq 32 x y
theorem neE16_fold (x y : Value) : binOp BinOp.neq 32 x y = neE16 x y := rfl
attribute [local go_sem ↓] neE16_fold
theorem stepV {O : Array Oper} {rest : List Oper} {o : Oper} {a : Act} {w : World} {Q : Exit → Act → World → Prop} (hw : Region.wanted o (yielded O a.tmps) = true) (v : Value) (hv : (execOp a.eval o).run Tryz.prog w = .ok (.value v) w) (h : wpList Tryz.prog O Q rest (a.put o.dst v) w) : wpList Tryz.prog O Q (o :: rest) a w := wpList_step fun K hK => by
 rw [if_pos hw]
 show o.upon Tryz.prog a K Q ((execOp a.eval o).run Tryz.prog w)
 rw [hv]
 exact hK _ _ h
theorem qxsame_any {X Z : Nat → Prop} (w : World) (y z : Ix) (hx : y.x = z.x) (hy : IxW X y w) (hz : IxW Z z w) : Calls Tryz.prog 11 #[.agg y.C, .agg z.C] w fun e w' => e = .returned (.bool true) ∧ Nw w w' := by
 refine asP fun P hP => ?_
 obtain ⟨x, ma, mn, mc, pa, pn, pc⟩ := y
 obtain ⟨x', ma', mn', mc', pa', pn', pc'⟩ := z
 simp only at hx
 subst hx
 have HM1 : SlR RG X (.slice ma mn mc) x.map w := hy.m
 have HM2 : SlR RG Z (.slice ma' mn' mc') x.map w := hz.m
 have HP1 : SlR RP X (.slice pa pn pc) x.pairs w := hy.p
 have HP2 : SlR RP Z (.slice pa' pn' pc') x.pairs w := hz.p
 clear hy hz
 have fm1 : mn = x.map.length ∧ x.map.length ≤ mc ∧ mc < 9223372036854775808 := by
  obtain ⟨a, c, e, h1, h2, _⟩ := HM1.form
  injection e with e1 e2 e3
  exact ⟨e2, by omega, by omega⟩
 have fm2 : mn' = x.map.length ∧ x.map.length ≤ mc' ∧ mc' < 9223372036854775808 := by
  obtain ⟨a, c, e, h1, h2, _⟩ := HM2.form
  injection e with e1 e2 e3
  exact ⟨e2, by omega, by omega⟩
 have fp1 : pn = x.pairs.length ∧ x.pairs.length ≤ pc ∧ pc < 9223372036854775808 := by
  obtain ⟨a, c, e, h1, h2, _⟩ := HP1.form
  injection e with e1 e2 e3
  exact ⟨e2, by omega, by omega⟩
 have fp2 : pn' = x.pairs.length ∧ x.pairs.length ≤ pc' ∧ pc' < 9223372036854775808 := by
  obtain ⟨a, c, e, h1, h2, _⟩ := HP2.form
  injection e with e1 e2 e3
  exact ⟨e2, by omega, by omega⟩
 obtain ⟨rfl, fm3, fm4⟩ := fm1
 obtain ⟨e2, fm5, fm6⟩ := fm2
 subst e2
 obtain ⟨rfl, fp3, fp4⟩ := fp1
 obtain ⟨e4, fp5, fp6⟩ := fp2
 subst e4
 unfold Ix.C
 simp only
 generalize x.map = M at *
 generalize x.pairs = L at *
 obtain ⟨EC, hEC⟩ : ∃ EC, entL16 x.name (x.kind : Nat) (x.mode : Nat) (x.uid : Nat) (x.gid : Nat) x.time (x.nano : Nat) x.user x.group x.link x.size x.typ.toNat = EC := ⟨_, rfl⟩
 obtain ⟨E, hE⟩ : ∃ E, EC.toArray = E := ⟨_, rfl⟩
 have HNE : Hid (∀ W, (binOp BinOp.neq 32 (.agg E) (.agg E)).run Tryz.prog W = .ok (.bool false) W) := fun W => by rw [← hE, ← hEC]; exact neqEnt _ _ _ _ _ _ _ _ _ _ _ _ W
 have HSZ : Hid ((Tryz.prog.info? 32).map (·.size) = some EC.length) := by
  have q : (Tryz.prog.info? 32).map (·.size) = some 12 := by kernel_rfl
  rw [← hEC]; exact q
 obtain ⟨W0, hW0⟩ : ∃ W0, w.alloc (.cells (icC x x.size x.frm x.head x.data x.next (.slice ma M.length mc) (.slice pa L.length pc)) 36) = W0 := ⟨_, rfl⟩
 obtain ⟨W1, hW1⟩ : ∃ W1, W0.alloc (.cells (icC x x.size x.frm x.head x.data x.next (.slice ma' M.length mc') (.slice pa' L.length pc')) 36) = W1 := ⟨_, rfl⟩
 have s0 : W0.heap.size = w.heap.size + 1 := by rw [← hW0]; simp
 have n0 : Nw w W0 := by rw [← hW0]; exact (Fr.refl _ _).alloc _
 have n1 : Nw W0 W1 := by rw [← hW1]; exact (Fr.refl _ _).alloc _
 have r0 : W1.heap[w.heap.size]? = some (.cells (icC x x.size x.frm x.head x.data x.next (.slice ma M.length mc) (.slice pa L.length pc)) 36) := Nw.heap n1 (by rw [← hW0]; exact newHeap _ _)
 have r1 : W1.heap[w.heap.size + 1]? = some (.cells (icC x x.size x.frm x.head x.data x.next (.slice ma' M.length mc') (.slice pa' L.length pc')) 36) := by rw [← hW1, ← s0]; exact newHeap _ _
 have HF : Hid (∀ V, Nw W1 V → P (.returned (.bool true)) V) := fun V hV => by rw [hP]; exact ⟨rfl, (n0.trans n1).trans hV⟩
 have HA1 : Hid (∀ V, Nw W1 V → SlR RG X (.slice ma M.length mc) M V) := fun V hV => (HM1.nw (n0.trans n1)).nw hV
 have HA2 : Hid (∀ V, Nw W1 V → SlR RG Z (.slice ma' M.length mc') M V) := fun V hV => (HM2.nw (n0.trans n1)).nw hV
 have HB1 : Hid (∀ V, Nw W1 V → SlR RP X (.slice pa L.length pc) L V) := fun V hV => (HP1.nw (n0.trans n1)).nw hV
 have HB2 : Hid (∀ V, Nw W1 V → SlR RP Z (.slice pa' L.length pc') L V) := fun V hV => (HP2.nw (n0.trans n1)).nw hV
 have HCA : Hid (∀ V, Nw W1 V → V.cell? ⟨w.heap.size, 20, none⟩ = some (.slice ma M.length mc) ∧ V.cell? ⟨w.heap.size + 1, 20, none⟩ = some (.slice ma' M.length mc') ∧ V.cell? ⟨w.heap.size, 21, none⟩ = some (.slice pa L.length pc) ∧ V.cell? ⟨w.heap.size + 1, 21, none⟩ = some (.slice pa' L.length pc')) := fun V hV =>
  ⟨cell_of (Nw.heap hV r0) 20 _ rfl, cell_of (Nw.heap hV r1) 20 _ rfl, cell_of (Nw.heap hV r0) 21 _ rfl, cell_of (Nw.heap hV r1) 21 _ rfl⟩
 have HR0 : Hid (W1.rangeAt w.heap.size 0 EC) := by
  rw [← hEC]
  intro j v hv
  rw [Nat.zero_add]
  refine cell_of r0 j v ?_
  have hj : j < 12 := (List.getElem?_eq_some_iff.1 hv).1
  have : ∀ j, j < 12 → ∀ v, (entL16 x.name (x.kind : Nat) (x.mode : Nat) (x.uid : Nat) (x.gid : Nat) x.time (x.nano : Nat) x.user x.group x.link x.size x.typ.toNat)[j]? = some v → (icC x x.size x.frm x.head x.data x.next (.slice ma M.length mc) (.slice pa L.length pc))[j]? = some v := by
   intro j hj v hv
   match j, hj with
   | 0, _ | 1, _ | 2, _ | 3, _ | 4, _ | 5, _ | 6, _ | 7, _ | 8, _ | 9, _ | 10, _ | 11, _ => exact hv
  exact this j hj v hv
 have HR1 : Hid (W1.rangeAt (w.heap.size + 1) 0 EC) := by
  rw [← hEC]
  intro j v hv
  rw [Nat.zero_add]
  refine cell_of r1 j v ?_
  have hj : j < 12 := (List.getElem?_eq_some_iff.1 hv).1
  have : ∀ j, j < 12 → ∀ v, (entL16 x.name (x.kind : Nat) (x.mode : Nat) (x.uid : Nat) (x.gid : Nat) x.time (x.nano : Nat) x.user x.group x.link x.size x.typ.toNat)[j]? = some v → (icC x x.size x.frm x.head x.data x.next (.slice ma' M.length mc') (.slice pa' L.length pc'))[j]? = some v := by
   intro j hj v hv
   match j, hj with
   | 0, _ | 1, _ | 2, _ | 3, _ | 4, _ | 5, _ | 6, _ | 7, _ | 8, _ | 9, _ | 10, _ | 11, _ => exact hv
  exact this j hj v hv
 have c0 := fun j v hv => cell_of r0 j v hv
 have d0 := fun j v hv => cell_of r1 j v hv
 have c12 : W1.cell? ⟨w.heap.size, 12, none⟩ = some (.int .i64 x.form) := c0 12 _ rfl
 have c13 : W1.cell? ⟨w.heap.size, 13, none⟩ = some (.int .u8 x.htyp.toNat) := c0 13 _ rfl
 have c14 : W1.cell? ⟨w.heap.size, 14, none⟩ = some (.int .i64 (x.frm : Nat)) := c0 14 _ rfl
 have c15 : W1.cell? ⟨w.heap.size, 15, none⟩ = some (.int .i64 (x.head : Nat)) := c0 15 _ rfl
 have c16 : W1.cell? ⟨w.heap.size, 16, none⟩ = some (.int .i64 (x.data : Nat)) := c0 16 _ rfl
 have c17 : W1.cell? ⟨w.heap.size, 17, none⟩ = some (.int .i64 (x.next : Nat)) := c0 17 _ rfl
 have c18 : W1.cell? ⟨w.heap.size, 18, none⟩ = some (.int .i64 (x.held : Nat)) := c0 18 _ rfl
 have c19 : W1.cell? ⟨w.heap.size, 19, none⟩ = some (.bool x.sparse) := c0 19 _ rfl
 have c20 : W1.cell? ⟨w.heap.size, 20, none⟩ = some (.slice ma M.length mc) := c0 20 _ rfl
 have c21 : W1.cell? ⟨w.heap.size, 21, none⟩ = some (.slice pa L.length pc) := c0 21 _ rfl
 have d12 : W1.cell? ⟨w.heap.size + 1, 12, none⟩ = some (.int .i64 x.form) := d0 12 _ rfl
 have d13 : W1.cell? ⟨w.heap.size + 1, 13, none⟩ = some (.int .u8 x.htyp.toNat) := d0 13 _ rfl
 have d14 : W1.cell? ⟨w.heap.size + 1, 14, none⟩ = some (.int .i64 (x.frm : Nat)) := d0 14 _ rfl
 have d15 : W1.cell? ⟨w.heap.size + 1, 15, none⟩ = some (.int .i64 (x.head : Nat)) := d0 15 _ rfl
 have d16 : W1.cell? ⟨w.heap.size + 1, 16, none⟩ = some (.int .i64 (x.data : Nat)) := d0 16 _ rfl
 have d17 : W1.cell? ⟨w.heap.size + 1, 17, none⟩ = some (.int .i64 (x.next : Nat)) := d0 17 _ rfl
 have d18 : W1.cell? ⟨w.heap.size + 1, 18, none⟩ = some (.int .i64 (x.held : Nat)) := d0 18 _ rfl
 have d19 : W1.cell? ⟨w.heap.size + 1, 19, none⟩ = some (.bool x.sparse) := d0 19 _ rfl
 have d20 : W1.cell? ⟨w.heap.size + 1, 20, none⟩ = some (.slice ma' M.length mc') := d0 20 _ rfl
 have d21 : W1.cell? ⟨w.heap.size + 1, 21, none⟩ = some (.slice pa' L.length pc') := d0 21 _ rfl
 have HW0 := tHid hW0
 have HW1 := tHid hW1
 have HE := tHid hE
 clear c0 d0 r0 r1 n0 n1 s0 hP HM1 HM2 HP1 HP2 hW0 hW1 hE hEC
 obtain ⟨CY, hCY⟩ : ∃ CY, icC x x.size x.frm x.head x.data x.next (.slice ma M.length mc) (.slice pa L.length pc) = CY := ⟨_, rfl⟩
 obtain ⟨CZ, hCZ⟩ : ∃ CZ, icC x x.size x.frm x.head x.data x.next (.slice ma' M.length mc') (.slice pa' L.length pc') = CZ := ⟨_, rfl⟩
 rw [hCY] at HW0 ⊢
 rw [hCZ] at HW1 ⊢
 clear hCY hCZ
 have HFM := tHid fm3
 have HFM5 := tHid fm5
 have HFP3 := tHid fp3
 have HFP5 := tHid fp5
 have HFP9 : Hid (L.length ≤ pc ∧ L.length ≤ pc') := ⟨fp3, fp5⟩
 have HFM9 : Hid (M.length ≤ mc ∧ M.length ≤ mc') := ⟨fm3, fm5⟩
 have HC4 : Hid (mc < 9223372036854775808 ∧ mc' < 9223372036854775808 ∧ pc < 9223372036854775808 ∧ pc' < 9223372036854775808) := ⟨fm4, fm6, fp4, fp6⟩
 clear fm3 fm4 fm5 fm6 fp3 fp4 fp5 fp6
 generalize x.form = z12 at *
 generalize x.htyp.toNat = z13 at *
 generalize x.frm = z14 at *
 generalize x.head = z15 at *
 generalize x.data = z16 at *
 generalize x.next = z17 at *
 generalize x.held = z18 at *
 generalize x.sparse = z19 at *
 have HMI : Hid (∀ I : Nat, I < M.length → ∃ x, M[I]? = some x) := fun I hI => ⟨_, List.getElem?_eq_getElem hI⟩
 have HLI : Hid (∀ I : Nat, I < L.length → ∃ x, L[I]? = some x) := fun I hI => ⟨_, List.getElem?_eq_getElem hI⟩
 generalize M.length = LM at *
 generalize L.length = LL at *
 go_enter Tryz.func11, Tryz.ntmps11
 go_upto_region 1 with fail
 rw [HW0.out, HW1.out]
 have hne : (neE16 (.agg E) (.agg E)).run Tryz.prog W1 = .ok (.bool false) W1 := HNE.out W1
 refine wp_region_lit ?_
 generalize hO : List.toArray _ = O
 refine stepV (by rw [← hO]; kernel_rfl) (.pointer (some ⟨w.heap.size, 0, none⟩)) (by kernel_rfl) ?_
 refine wpList_load_mid rfl 32 _ rfl w.heap.size 0 (by kernel_rfl) EC _ HR0.out Tryz.underlying32 rfl HSZ.out ?_
 rw [HE.out]
 refine stepV (by rw [← hO]; kernel_rfl) (.pointer (some ⟨w.heap.size + 1, 0, none⟩)) (by kernel_rfl) ?_
 refine wpList_load_mid rfl 32 _ rfl (w.heap.size + 1) 0 (by kernel_rfl) EC _ HR1.out Tryz.underlying32 rfl HSZ.out ?_
 rw [HE.out]
 simp only [Act.put, nz1, nz2, nz3]
 refine stepV (by rw [← hO]; kernel_rfl) (.bool false) (by unfold execOp; go_simp) ?_
 refine stepV (by rw [← hO]; kernel_rfl) (.bool false) (by kernel_rfl) ?_
 refine stepV (by rw [← hO]; kernel_rfl) (.pointer (some ⟨w.heap.size, 12, none⟩)) (by kernel_rfl) ?_
 refine stepV (by rw [← hO]; kernel_rfl) (.int .i64 z12) (by unfold execOp; go_simp) ?_
 simp only [Act.put, nz1, nz2, nz3]
 refine stepV (by rw [← hO]; kernel_rfl) (.pointer (some ⟨w.heap.size + 1, 12, none⟩)) (by kernel_rfl) ?_
 refine stepV (by rw [← hO]; kernel_rfl) (.int .i64 z12) (by unfold execOp; go_simp) ?_
 refine stepV (by rw [← hO]; kernel_rfl) (.bool false) (by unfold execOp; go_simp) ?_
 refine stepV (by rw [← hO]; kernel_rfl) (.bool false) (by kernel_rfl) ?_
 simp only [Act.put, nz1, nz2, nz3]
 refine stepV (by rw [← hO]; kernel_rfl) (.bool false) (by kernel_rfl) ?_
 refine stepV (by rw [← hO]; kernel_rfl) (.pointer (some ⟨w.heap.size, 13, none⟩)) (by kernel_rfl) ?_
 refine stepV (by rw [← hO]; kernel_rfl) (.int .u8 (z13 : Nat)) (by unfold execOp; go_simp) ?_
 refine stepV (by rw [← hO]; kernel_rfl) (.pointer (some ⟨w.heap.size + 1, 13, none⟩)) (by kernel_rfl) ?_
 simp only [Act.put, nz1, nz2, nz3]
 refine stepV (by rw [← hO]; kernel_rfl) (.int .u8 (z13 : Nat)) (by unfold execOp; go_simp) ?_
 refine stepV (by rw [← hO]; kernel_rfl) (.bool false) (by unfold execOp; go_simp) ?_
 refine stepV (by rw [← hO]; kernel_rfl) (.bool false) (by kernel_rfl) ?_
 refine stepV (by rw [← hO]; kernel_rfl) (.bool false) (by kernel_rfl) ?_
 simp only [Act.put, nz1, nz2, nz3]
 refine stepV (by rw [← hO]; kernel_rfl) (.pointer (some ⟨w.heap.size, 14, none⟩)) (by kernel_rfl) ?_
 refine stepV (by rw [← hO]; kernel_rfl) (.int .i64 (z14 : Nat)) (by unfold execOp; go_simp) ?_
 refine stepV (by rw [← hO]; kernel_rfl) (.pointer (some ⟨w.heap.size + 1, 14, none⟩)) (by kernel_rfl) ?_
 refine stepV (by rw [← hO]; kernel_rfl) (.int .i64 (z14 : Nat)) (by unfold execOp; go_simp) ?_
 simp only [Act.put, nz1, nz2, nz3]
 refine stepV (by rw [← hO]; kernel_rfl) (.bool false) (by unfold execOp; go_simp) ?_
 refine stepV (by rw [← hO]; kernel_rfl) (.bool false) (by kernel_rfl) ?_
 refine stepV (by rw [← hO]; kernel_rfl) (.bool false) (by kernel_rfl) ?_
 refine stepV (by rw [← hO]; kernel_rfl) (.pointer (some ⟨w.heap.size, 15, none⟩)) (by kernel_rfl) ?_
 simp only [Act.put, nz1, nz2, nz3]
 refine stepV (by rw [← hO]; kernel_rfl) (.int .i64 (z15 : Nat)) (by unfold execOp; go_simp) ?_
 refine stepV (by rw [← hO]; kernel_rfl) (.pointer (some ⟨w.heap.size + 1, 15, none⟩)) (by kernel_rfl) ?_
 refine stepV (by rw [← hO]; kernel_rfl) (.int .i64 (z15 : Nat)) (by unfold execOp; go_simp) ?_
 refine stepV (by rw [← hO]; kernel_rfl) (.bool false) (by unfold execOp; go_simp) ?_
 simp only [Act.put, nz1, nz2, nz3]
 refine stepV (by rw [← hO]; kernel_rfl) (.bool false) (by kernel_rfl) ?_
 refine stepV (by rw [← hO]; kernel_rfl) (.bool false) (by kernel_rfl) ?_
 refine stepV (by rw [← hO]; kernel_rfl) (.pointer (some ⟨w.heap.size, 16, none⟩)) (by kernel_rfl) ?_
 refine stepV (by rw [← hO]; kernel_rfl) (.int .i64 (z16 : Nat)) (by unfold execOp; go_simp) ?_
 simp only [Act.put, nz1, nz2, nz3]
 refine stepV (by rw [← hO]; kernel_rfl) (.pointer (some ⟨w.heap.size + 1, 16, none⟩)) (by kernel_rfl) ?_
 refine stepV (by rw [← hO]; kernel_rfl) (.int .i64 (z16 : Nat)) (by unfold execOp; go_simp) ?_
 refine stepV (by rw [← hO]; kernel_rfl) (.bool false) (by unfold execOp; go_simp) ?_
 refine stepV (by rw [← hO]; kernel_rfl) (.bool false) (by kernel_rfl) ?_
 simp only [Act.put, nz1, nz2, nz3]
 refine stepV (by rw [← hO]; kernel_rfl) (.bool false) (by kernel_rfl) ?_
 refine stepV (by rw [← hO]; kernel_rfl) (.pointer (some ⟨w.heap.size, 17, none⟩)) (by kernel_rfl) ?_
 refine stepV (by rw [← hO]; kernel_rfl) (.int .i64 (z17 : Nat)) (by unfold execOp; go_simp) ?_
 refine stepV (by rw [← hO]; kernel_rfl) (.pointer (some ⟨w.heap.size + 1, 17, none⟩)) (by kernel_rfl) ?_
 simp only [Act.put, nz1, nz2, nz3]
 refine stepV (by rw [← hO]; kernel_rfl) (.int .i64 (z17 : Nat)) (by unfold execOp; go_simp) ?_
 refine stepV (by rw [← hO]; kernel_rfl) (.bool false) (by unfold execOp; go_simp) ?_
 refine stepV (by rw [← hO]; kernel_rfl) (.bool false) (by kernel_rfl) ?_
 refine stepV (by rw [← hO]; kernel_rfl) (.bool false) (by kernel_rfl) ?_
 simp only [Act.put, nz1, nz2, nz3]
 refine stepV (by rw [← hO]; kernel_rfl) (.pointer (some ⟨w.heap.size, 18, none⟩)) (by kernel_rfl) ?_
 refine stepV (by rw [← hO]; kernel_rfl) (.int .i64 (z18 : Nat)) (by unfold execOp; go_simp) ?_
 refine stepV (by rw [← hO]; kernel_rfl) (.pointer (some ⟨w.heap.size + 1, 18, none⟩)) (by kernel_rfl) ?_
 refine stepV (by rw [← hO]; kernel_rfl) (.int .i64 (z18 : Nat)) (by unfold execOp; go_simp) ?_
 simp only [Act.put, nz1, nz2, nz3]
 refine stepV (by rw [← hO]; kernel_rfl) (.bool false) (by unfold execOp; go_simp) ?_
 refine stepV (by rw [← hO]; kernel_rfl) (.bool false) (by kernel_rfl) ?_
 refine stepV (by rw [← hO]; kernel_rfl) (.bool false) (by kernel_rfl) ?_
 refine stepV (by rw [← hO]; kernel_rfl) (.pointer (some ⟨w.heap.size, 19, none⟩)) (by kernel_rfl) ?_
 simp only [Act.put, nz1, nz2, nz3]
 refine stepV (by rw [← hO]; kernel_rfl) (.bool z19) (by unfold execOp; go_simp) ?_
 refine stepV (by rw [← hO]; kernel_rfl) (.pointer (some ⟨w.heap.size + 1, 19, none⟩)) (by kernel_rfl) ?_
 refine stepV (by rw [← hO]; kernel_rfl) (.bool z19) (by unfold execOp; go_simp) ?_
 refine stepV (by rw [← hO]; kernel_rfl) (.bool false) (by unfold execOp; go_simp) ?_
 simp only [Act.put, nz1, nz2, nz3]
 refine stepV (by rw [← hO]; kernel_rfl) (.bool false) (by kernel_rfl) ?_
 refine stepV (by rw [← hO]; kernel_rfl) (.bool false) (by kernel_rfl) ?_
 refine stepV (by rw [← hO]; kernel_rfl) (.pointer (some ⟨w.heap.size, 20, none⟩)) (by kernel_rfl) ?_
 refine stepV (by rw [← hO]; kernel_rfl) (.slice ma LM mc) (by unfold execOp; go_simp) ?_
 simp only [Act.put, nz1, nz2, nz3]
 refine stepV (by rw [← hO]; kernel_rfl) (.int .i64 (LM : Nat)) (by unfold execOp; go_simp) ?_
 refine stepV (by rw [← hO]; kernel_rfl) (.pointer (some ⟨w.heap.size + 1, 20, none⟩)) (by kernel_rfl) ?_
 refine stepV (by rw [← hO]; kernel_rfl) (.slice ma' LM mc') (by unfold execOp; go_simp) ?_
 refine stepV (by rw [← hO]; kernel_rfl) (.int .i64 (LM : Nat)) (by unfold execOp; go_simp) ?_
 simp only [Act.put, nz1, nz2, nz3]
 refine stepV (by rw [← hO]; kernel_rfl) (.bool false) (by unfold execOp; go_simp) ?_
 refine stepV (by rw [← hO]; kernel_rfl) (.bool false) (by kernel_rfl) ?_
 refine stepV (by rw [← hO]; kernel_rfl) (.bool false) (by kernel_rfl) ?_
 refine stepV (by rw [← hO]; kernel_rfl) (.pointer (some ⟨w.heap.size, 21, none⟩)) (by kernel_rfl) ?_
 simp only [Act.put, nz1, nz2, nz3]
 refine stepV (by rw [← hO]; kernel_rfl) (.slice pa LL pc) (by unfold execOp; go_simp) ?_
 refine stepV (by rw [← hO]; kernel_rfl) (.int .i64 (LL : Nat)) (by unfold execOp; go_simp) ?_
 refine stepV (by rw [← hO]; kernel_rfl) (.pointer (some ⟨w.heap.size + 1, 21, none⟩)) (by kernel_rfl) ?_
 refine stepV (by rw [← hO]; kernel_rfl) (.slice pa' LL pc') (by unfold execOp; go_simp) ?_
 simp only [Act.put, nz1, nz2, nz3]
 refine stepV (by rw [← hO]; kernel_rfl) (.int .i64 (LL : Nat)) (by unfold execOp; go_simp) ?_
 refine stepV (by rw [← hO]; kernel_rfl) (.bool false) (by unfold execOp; go_simp) ?_
 refine stepV (by rw [← hO]; kernel_rfl) (.bool false) (by kernel_rfl) ?_
 try simp only [Act.put, nz1, nz2, nz3]
 refine wpList_nil ?_
 go_wp2_with fail
 go_loopg [5] LM (fun kx v wr => ∃ I : Nat, I ≤ LM ∧ LM - I ≤ kx ∧ v = .int .i64 I ∧ Hid (Nw W1 wr))
 case atStart => exact ⟨0, by omega, by omega, rfl, Fr.refl _ _⟩
 case round =>
  obtain ⟨I, hI, hkx, rfl, K⟩ := hrel
  obtain ⟨k20, l20, k21, l21⟩ := HCA.out wr K.out
  by_cases hlt : I < LM
  ·have hIi : (I : Int) < (LM : Int) := by omega
   have hD : decide (I < LM) = true := decide_eq_true hlt
   obtain ⟨q, hq⟩ := HMI.out I hlt
   obtain ⟨ga, oa, ea, _, ca⟩ := (HA1.out wr K.out).at I q hq
   obtain ⟨gb, ob, eb, _, cb⟩ := (HA2.out wr K.out).at I q hq
   subst ea eb
   have a0 : wr.cell? ⟨ga, oa + I * 2, none⟩ = some (.int .i64 q.1) := ca 0 _ rfl
   have a1 : wr.cell? ⟨ga, oa + I * 2 + 1, none⟩ = some (.int .i64 q.2) := ca 1 _ rfl
   have b0 : wr.cell? ⟨gb, ob + I * 2, none⟩ = some (.int .i64 q.1) := cb 0 _ rfl
   have b1 : wr.cell? ⟨gb, ob + I * 2 + 1, none⟩ = some (.int .i64 q.2) := cb 1 _ rfl
   clear ca cb hq
   have hnq := fun w => neqRg q.1 q.2 w
   obtain ⟨qa, qb⟩ := q
   simp only at *
   have hw1 : wrap64 ((I : Int) + 1) = (I : Int) + 1 := by
    have := HC4.out
    have := HFM9.out
    have := HFP9.out
    unfold wrap64
    omega
   obtain ⟨hcm, hcn⟩ := HFM9.out
   go_wp2_with fail
   go_quiet (fail)
   go_wp2_with fail
   go_roundg (LM - (I + 1))
   case measure => omega
   case rel => exact ⟨I + 1, by omega, by omega, by first | rfl | (congr 1), K.out.trans ((Fr.refl _ _).drewN _)⟩
  ·have hIi : ¬ (I : Int) < (LM : Int) := by omega
   have hD : decide (I < LM) = false := decide_eq_false hlt
   go_wp2_with fail
   go_loopg [6] LL (fun kx v wr => ∃ I : Nat, I ≤ LL ∧ LL - I ≤ kx ∧ v = .int .i64 I ∧ Hid (Nw W1 wr))
   case atStart => exact ⟨0, by omega, by omega, rfl, K.out⟩
   case round =>
    obtain ⟨I, hI, hkx, rfl, K⟩ := hrel
    obtain ⟨k20, l20, k21, l21⟩ := HCA.out wr K.out
    by_cases hlt : I < LL
    ·have hIi : (I : Int) < (LL : Int) := by omega
     have hD : decide (I < LL) = true := decide_eq_true hlt
     obtain ⟨q, hq⟩ := HLI.out I hlt
     obtain ⟨ga, oa, ea, _, ca⟩ := (HB1.out wr K.out).at I q hq
     obtain ⟨gb, ob, eb, _, cb⟩ := (HB2.out wr K.out).at I q hq
     subst ea eb
     have a0 : wr.cell? ⟨ga, oa + I * 2, none⟩ = some (.string (str q.1)) := ca 0 _ rfl
     have a1 : wr.cell? ⟨ga, oa + I * 2 + 1, none⟩ = some (.string (str q.2)) := ca 1 _ rfl
     have b0 : wr.cell? ⟨gb, ob + I * 2, none⟩ = some (.string (str q.1)) := cb 0 _ rfl
     have b1 : wr.cell? ⟨gb, ob + I * 2 + 1, none⟩ = some (.string (str q.2)) := cb 1 _ rfl
     clear ca cb hq
     have hnq := fun w => neqPr (str q.1) (str q.2) w
     obtain ⟨qa, qb⟩ := q
     simp only at *
     generalize str qa = sa at *
     generalize str qb = sb at *
     have hw1 : wrap64 ((I : Int) + 1) = (I : Int) + 1 := by
      have := HC4.out
      have := HFM9.out
      have := HFP9.out
      unfold wrap64
      omega
     obtain ⟨hcm, hcn⟩ := HFP9.out
     go_wp2_with fail
     go_quiet (fail)
     go_wp2_with fail
     go_roundg (LL - (I + 1))
     case measure => omega
     case rel => exact ⟨I + 1, by omega, by omega, by first | rfl | (congr 1), K.out.trans ((Fr.refl _ _).drewN _)⟩
    ·have hIi : ¬ (I : Int) < (LL : Int) := by omega
     have hD : decide (I < LL) = false := decide_eq_false hlt
     go_wp2_with fail
     exact HF.out _ K.out
end Go.Proofs.YtlenihpbhlfcoaaGreatDoor
namespace Go.Proofs.YtlenihpbhlfcoaaGreatDoor
open Go.RowKit Go.Deep
set_option maxRecDepth 100000
theorem begins_pure {b : List By} {n : Nat} (hn : n ≤ b.length) {L1 L2 : List Ix} {a1 E1 a2 E2 : Nat} {G1 G2 : List Pr} (h1 : rdR b 0 [] = (L1.map (·.x), a1, E1, G1)) (h2 : rdR (b.take n) 0 [] = (L2.map (·.x), a2, E2, G2)) :
  L2.length ≤ L1.length ∧ ∀ (i : Nat) (y : Ix), L1[i]? = some y → (i < L2.length → y.x.next ≤ n ∧ ∃ z, L2[i]? = some z ∧ z.x = y.x) ∧ (¬ i < L2.length → ¬ y.x.next ≤ n) := by
 obtain ⟨m, k1, k2⟩ := rd_begins b n hn _ 0 [] (Nat.le_refl _)
 rw [h1, h2] at k1
 simp only at k1
 have hl := congrArg List.length k1
 rw [List.length_map, List.length_take, List.length_map] at hl
 refine ⟨by omega, fun i y hy => ?_⟩
 have hiy : (rdR b 0 []).1[i]? = some y.x := by rw [h1]; simp [hy]
 have hi : i < L1.length := (List.getElem?_eq_some_iff.1 hy).1
 have hm := (k2 i y.x hiy).1
 refine ⟨fun h => ⟨hm.1 (by omega), ?_⟩, fun h h3 => h (by have := hm.2 h3; omega)⟩
 refine ⟨L2[i]'h, List.getElem?_eq_getElem h, ?_⟩
 have e : (L2.map (·.x))[i]? = ((L1.map (·.x)).take m)[i]? := by rw [k1]
 rw [List.getElem?_take, if_pos (by omega), List.getElem?_map, List.getElem?_map, hy, List.getElem?_eq_getElem h] at e
 simpa using e
theorem begins_walk (w : World) (hE : Env w) (xb : Option Addr) (cb : Nat) (b : List By) (hb : Old w (.slice xb b.length cb) b) (hbl : b.length ≤ 140737488351232) (n : Int) :
  Calls Tryz.prog 4 #[.slice xb b.length cb, .int .i64 n] w fun e w' => e = .returned (.bool true) ∧ Nw w w' := by
 refine asP fun P hP => ?_
 have HP : Hid (∀ V, Nw w V → P (.returned (.bool true)) V) := fun V hV => by rw [hP]; exact ⟨rfl, hV⟩
 have HE := tHid hE
 have HL := tHid (lives16_any w hE)
 have HB := tHid hb
 have hcb : b.length ≤ cb ∧ cb < 9223372036854775808 := by
  rcases hb with ⟨a', e, e2⟩ | ⟨g, hg, o, c', e, h1, h2, h3⟩
  ·injection e with e1 e2' e3; subst e2; simp; omega
  ·injection e with e1 e2 e3; omega
 obtain ⟨N, hN⟩ : ∃ N, b.length = N := ⟨_, rfl⟩
 have HN := tHid hN
 rw [hN] at hbl hcb ⊢
 obtain ⟨hcb1, hcb2⟩ := hcb
 clear hP hE hb hN
 go_enter Tryz.func4, Tryz.ntmps4
 go_wp2_with fail
 go_at_call 8
 with_reducible refine HL.out.mono ?_
 rintro e V0 ⟨rfl, n0⟩
 have N0 := tHid n0
 clear n0
 go_upto_region 3 with fail
 go_cut [21] from 14 to 20 (fun v wx => v = .bool (decide (n < 0 ∨ (N : Int) < n)) ∧ V0 = wx)
 case first =>
  by_cases h0 : n < 0
  ·have hd : decide (n < 0 ∨ (N : Int) < n) = true := decide_eq_true (.inl h0)
   have HD := tHid hd
   clear hd
   go_wp2_with fail
   go_meet
   exact ⟨by rw [HD.out], rfl⟩
  ·by_cases h1 : (N : Int) < n
   ·have hd : decide (n < 0 ∨ (N : Int) < n) = true := decide_eq_true (.inr h1)
    have HD := tHid hd
    clear hd
    go_wp2_with fail
    go_meet
    exact ⟨by rw [HD.out], rfl⟩
   ·have hd : decide (n < 0 ∨ (N : Int) < n) = false := decide_eq_false (fun h => h.elim h0 h1)
    have HD := tHid hd
    clear hd
    go_wp2_with fail
    go_meet
    exact ⟨by rw [HD.out], rfl⟩
 case rest =>
  obtain ⟨rfl, rfl⟩ := hcut
  obtain ⟨cc, hcc⟩ : ∃ cc, decide (n < 0 ∨ (N : Int) < n) = cc := ⟨_, rfl⟩
  have HCC := tHid hcc
  rw [hcc]
  clear hcc
  go_upto_if 21 with fail
  go_cut [1] from 22 to 23 (fun v wx => ∃ M : Nat, M ≤ N ∧ v = .int .i64 M ∧ V0 = wx)
  case first =>
   cases cc
   ·have hn := of_decide_eq_false HCC.out
    obtain ⟨M, rfl⟩ : ∃ M : Nat, n = (M : Int) := ⟨n.toNat, by omega⟩
    have hM : M ≤ N := by omega
    clear hn
    go_wp2_with fail
    go_meet
    exact ⟨M, hM, rfl, rfl⟩
   ·go_wp2_with fail
    go_meet
    exact ⟨N, Nat.le_refl _, rfl, rfl⟩
  case rest =>
   obtain ⟨M, hM, rfl, rfl⟩ := hcut
   obtain ⟨g1, c1, W1, HA1, o1, l1, n1⟩ := copyR V0 (.slice xb N cb) b ((by rw [← HN.out]; exact (Sl.nw HB.out N0.out).mono (fun _ h => h.elim))) (by rw [HN.out]; omega)
   rw [HN.out] at HA1 o1
   have HR1 : Hid (Calls Tryz.prog 9 #[.slice (some ⟨g1, 0, none⟩) N c1] W1 fun e V' => ∃ (Ln : Nat) (av : Option Addr) (cv a E : Nat), e = .returned (.tuple #[.slice av Ln cv, .int .i64 (a : Nat), .int .i64 (E : Nat)]) ∧ Hid (∃ (L : List Ix) (G : List Pr), L.length = Ln ∧ rdR b 0 [] = (L.map (·.x), a, E, G) ∧ Nw W1 V' ∧ Ln ≤ cv ∧ cv < 9223372036854775808 ∧ ∃ og, OgR RIx og (.slice av Ln cv) L V' ∧ (∀ g, og = some g → W1.heap.size ≤ g) ∧ ∀ y ∈ L, IxW (fun k => og = some k ∨ k < W1.heap.size ∨ V'.heap.size ≤ k) y V')) := by
    have hold : Old W1 (.slice (some ⟨g1, 0, none⟩) b.length c1) b := by rw [HN.out]; exact o1.old
    have := qRead_any W1 (some ⟨g1, 0, none⟩) c1 b hold (by rw [HN.out]; omega) (HE.out.nw (N0.out.trans n1))
    rw [HN.out] at this
    exact this.mono fun e V' h => reF h
   have N1 := tHid n1
   clear o1 l1 n1
   go_upto_region 6 with (first
    | (at_builtin; refine Lib.wpList_append_run _ rfl _ _ 22 22 rfl (.slice (some ⟨V0.heap.size, 0, none⟩) 0 0) (.slice xb N cb) (by first | rfl | simp [Act.eval]) (by first | rfl | simp [Act.eval]) _ _ (HA1.out _) ?_)
    | (go_at_call 9; with_reducible refine HR1.out.mono ?_; rintro e V2 ⟨Ln, av, cv, a, E, rfl, K2⟩)
    | fail)
   obtain ⟨L1, G1, hL1, hr1, n2, hcv1, hcv2, og1, lo1, op1, it1⟩ := K2
   have N2 : Hid (Nw w V2) := (N0.out.trans N1.out).trans n2
   clear n2 HR1 HA1
   have hpl : (b.take M).length = M := by rw [List.length_take, HN.out]; omega
   have hbo : Old V2 (.slice xb b.length cb) b := (Sl.nw HB.out N2.out).mono (fun k hk => Nat.le_trans N2.out.size hk)
   obtain ⟨g2, c2, W3, HA2, o2, l2, n3⟩ := copyR V2 (.slice xb M cb) (b.take M) ((Old.pre hbo M (by rw [HN.out]; omega)).mono (fun _ h => h.elim)) (by rw [hpl]; omega)
   have HR2 : Hid (Calls Tryz.prog 9 #[.slice (some ⟨g2, 0, none⟩) M c2] W3 fun e V' => ∃ (Ln2 : Nat) (av2 : Option Addr) (cv2 a2 E2 : Nat), e = .returned (.tuple #[.slice av2 Ln2 cv2, .int .i64 (a2 : Nat), .int .i64 (E2 : Nat)]) ∧ Hid (∃ (L : List Ix) (G : List Pr), L.length = Ln2 ∧ rdR (b.take M) 0 [] = (L.map (·.x), a2, E2, G) ∧ Nw W3 V' ∧ Ln2 ≤ cv2 ∧ cv2 < 9223372036854775808 ∧ ∃ og, OgR RIx og (.slice av2 Ln2 cv2) L V' ∧ (∀ g, og = some g → W3.heap.size ≤ g) ∧ ∀ y ∈ L, IxW (fun k => og = some k ∨ k < W3.heap.size ∨ V'.heap.size ≤ k) y V')) := by
    have hold : Old W3 (.slice (some ⟨g2, 0, none⟩) (b.take M).length c2) (b.take M) := by rw [hpl] at o2 ⊢; exact o2.old
    have := qRead_any W3 (some ⟨g2, 0, none⟩) c2 _ hold (by rw [hpl]; omega) (HE.out.nw (N2.out.trans n3))
    rw [hpl] at this
    exact this.mono fun e V' h => reF h
   rw [hpl] at HA2
   have N3 := tHid n3
   have k3 : M ≤ cb := by omega
   have k2 : (M : Int) ≤ (cb : Int) := by omega
   clear hpl hbo o2 l2 n3
   go_wp2_with (first
    | (at_builtin; refine Lib.wpList_append_run _ rfl _ _ 22 22 rfl (.slice (some ⟨V2.heap.size, 0, none⟩) 0 0) (.slice xb M cb) (by first | rfl | simp [Act.eval]) (by first | rfl | simp [Act.eval]) _ _ (HA2.out _) ?_)
    | fail)
   go_at_call 9
   with_reducible refine HR2.out.mono ?_
   rintro e V3 ⟨Ln2, av2, cv2, a2, E2, rfl, K3⟩
   obtain ⟨L2, G2, hL2, hr2, n4, hcv3, hcv4, og2, lo2, op2, it2⟩ := K3
   obtain ⟨hlen, hpos⟩ := begins_pure (by rw [HN.out]; omega) hr1 hr2
   rw [hL1, hL2] at hlen
   have HPOS := tHid hpos
   have HL1 := tHid hL1
   have HL2 := tHid hL2
   have HLO1 : Hid (OgR RIx og1 (.slice av Ln cv) L1 V3) := (lo1.nw N3.out).nw n4
   have HLO2 : Hid (OgR RIx og2 (.slice av2 Ln2 cv2) L2 V3) := lo2
   have HIT1 : Hid (∀ y ∈ L1, IxW (fun _ => False) y V3) := fun y hy => (((it1 y hy).nw N3.out).nw n4).mono (fun _ h => h.elim)
   have HIT2 : Hid (∀ y ∈ L2, IxW (fun _ => False) y V3) := fun y hy => (it2 y hy).mono (fun _ h => h.elim)
   have N4 : Hid (Nw w V3) := (N2.out.trans N3.out).trans n4
   have hlen2 : ¬ ((Ln : Int) < (Ln2 : Int)) := by omega
   have hlen3 : decide (Ln < Ln2) = false := decide_eq_false (by omega)
   clear hpos hL1 hL2 hr1 hr2 lo1 lo2 it1 it2 op1 op2 n4 HR2 HA2 N2 N3 N0 N1 HL
   go_wp2_with fail
   go_loopg [11] Ln (fun kx v wr => ∃ I : Nat, I ≤ Ln ∧ Ln - I ≤ kx ∧ v = .int .i64 I ∧ Hid (Nw V3 wr))
   case atStart => exact ⟨0, by omega, by omega, rfl, Fr.refl _ _⟩
   case round =>
    obtain ⟨I, hI, hkx, rfl, K⟩ := hrel
    by_cases hlt : I < Ln
    ·have hIi : (I : Int) < (Ln : Int) := by omega
     have hI1 : I < L1.length := by have := HL1.out; omega
     obtain ⟨g1, hg1⟩ : ∃ g, og1 = some g := by
      cases og1 with
      | none => have := HLO1.out.2; rw [this] at hI1; simp at hI1
      | some g => exact ⟨g, rfl⟩
     subst hg1
     have ow1 : OwR RIx g1 (.slice av Ln cv) L1 wr := (show OwR RIx g1 _ L1 V3 from HLO1.out).nw K.out
     obtain ⟨cc1, ev1, _, _⟩ := ow1.form
     injection ev1 with ea1 eb1 ec1
     clear eb1 ec1
     subst ea1
     obtain ⟨y, hy⟩ : ∃ y, L1[I]? = some y := ⟨_, List.getElem?_eq_getElem hI1⟩
     have A17 : wr.cell? ⟨g1, I * 22 + 17, none⟩ = some (.int .i64 (y.x.next : Nat)) := (ow1.cell rixOk I 17 y _ hy rfl).1
     have hps := HPOS.out I y hy
     rw [HL2.out] at hps
     by_cases hl2 : I < Ln2
     ·have hi2 : (I : Int) < (Ln2 : Int) := by omega
      obtain ⟨hnx, z, hz, hzx⟩ := hps.1 hl2
      have hD1 : decide (I < Ln2) = true := decide_eq_true hl2
      have hD2 : decide (y.x.next ≤ M) = true := decide_eq_true hnx
      have hI2 : I < L2.length := by have := HL2.out; omega
      obtain ⟨g2, hg2⟩ : ∃ g, og2 = some g := by
       cases og2 with
       | none => have := HLO2.out.2; rw [this] at hI2; simp at hI2
       | some g => exact ⟨g, rfl⟩
      subst hg2
      have ow2 : OwR RIx g2 (.slice av2 Ln2 cv2) L2 wr := (show OwR RIx g2 _ L2 V3 from HLO2.out).nw K.out
      obtain ⟨cc2, ev2, _, _⟩ := ow2.form
      injection ev2 with ea2 eb2 ec2
      clear eb2 ec2
      subst ea2
      have iy : IxW (fun _ => False) y V3 := HIT1.out y (List.mem_of_getElem? hy)
      have iz : IxW (fun _ => False) z V3 := HIT2.out z (List.mem_of_getElem? hz)
      obtain ⟨C1, hC1⟩ : ∃ C1, y.C.toList = C1 := ⟨_, rfl⟩
      obtain ⟨C2, hC2⟩ : ∃ C2, z.C.toList = C2 := ⟨_, rfl⟩
      have HZ1 : Hid ((Tryz.prog.info? 36).map (·.size) = some C1.length) := by rw [← hC1]; exact ixI
      have HZ2 : Hid ((Tryz.prog.info? 36).map (·.size) = some C2.length) := by rw [← hC2]; exact ixI
      have hR1 : ∀ U, Nw wr U → U.rangeAt g1 (I * 22) C1 := fun U hU j v hv => by
       rw [← hC1] at hv
       have := (ow1.nw hU).cell rixOk I j y v hy hv
       exact this.1
      have hR2 : ∀ U, Nw wr U → U.rangeAt g2 (I * 22) C2 := fun U hU j v hv => by
       rw [← hC2] at hv
       have := (ow2.nw hU).cell rixOk I j z v hz hv
       exact this.1
      have HSM : Hid (∀ V, Nw wr V → Calls Tryz.prog 11 #[.agg C2.toArray, .agg C1.toArray] V fun e w' => e = .returned (.bool true) ∧ Hid (Nw wr w')) := fun V hV => by
       rw [← hC1, ← hC2, Array.toArray_toList, Array.toArray_toList]
       exact (qxsame_any V z y hzx (iz.nw (K.out.trans hV)) (iy.nw (K.out.trans hV))).mono fun e w' h => ⟨h.1, hV.trans h.2⟩
      have HK5 : Hid (∀ V, Hid (Nw wr V) → V.rangeAt g2 (I * 22) C2 ∧ V.rangeAt g1 (I * 22) C1) := fun V hV => ⟨hR2 V hV, hR1 V hV⟩
      have HS14 : Hid (wr.drew.rangeAt g2 (I * 22) C2 ∧ wr.drew.rangeAt g1 (I * 22) C1) := ⟨hR2 _ ((Fr.refl _ _).drew), hR1 _ ((Fr.refl _ _).drew)⟩
      have HRR : Hid (∀ U, Nw wr U → U.rangeAt g2 (I * 22) C2 ∧ U.rangeAt g1 (I * 22) C1) := fun U hU => ⟨hR2 U hU, hR1 U hU⟩
      clear hps hy hz hzx hI1 hI2 ow1 ow2 iy iz hC1 hC2 hR1 hR2 HPOS hnx
      go_upto_region 14 with fail
      refine wp_region_held_drew (S := fun U => U.rangeAt g2 (I * 22) C2 ∧ U.rangeAt g1 (I * 22) C1) (by kernel_rfl) HS14.out (fun hHeld => ?_)
      refine wpAnyH_take (i := 0) (oi := ⟨some 65, .move (.tmp 11), 3, "outright.go:74", #[], none⟩) (v := ?_) rfl (by kernel_rfl) (by kernel_rfl) (by kernel_rfl) (fun _ _ _ h => h) (Or.inl ⟨by rfl, ?_⟩) (by assumption) ?_
      rotate_left
      ·intro U hSw; obtain ⟨hSw0, hSw1⟩ := hSw; (go_simp <;> with_reducible rfl)
      try simp only [Act.put, nz1, nz2, nz3]
      refine wpAnyH_take (i := 1) (oi := ⟨some 66, .move (.tmp 8), 24, "outright.go:74", #[], none⟩) (v := ?_) rfl (by kernel_rfl) (by kernel_rfl) (by kernel_rfl) (fun _ _ _ h => h) (Or.inl ⟨by rfl, ?_⟩) (by assumption) ?_
      rotate_left
      ·intro U hSw; obtain ⟨hSw0, hSw1⟩ := hSw; (go_simp <;> with_reducible rfl)
      try simp only [Act.put, nz1, nz2, nz3]
      refine wpAnyH_take (i := 2) (oi := ⟨some 67, .call ⟨.builtin Builtin.len, #[.tmp 66], #[24]⟩, 3, "outright.go:74", #[⟨1, .data⟩], none⟩) (v := ?_) rfl (by kernel_rfl) (by kernel_rfl) (by kernel_rfl) (fun _ _ _ h => h) (Or.inl ⟨by rfl, ?_⟩) (by assumption) ?_
      rotate_left
      ·intro U hSw; obtain ⟨hSw0, hSw1⟩ := hSw; (go_simp <;> with_reducible rfl)
      try simp only [Act.put, nz1, nz2, nz3]
      refine wpAnyH_take (i := 3) (oi := ⟨some 68, .binOp BinOp.lss 3 (.tmp 65) (.tmp 67) 3, 4, "outright.go:74", #[⟨0, .data⟩, ⟨2, .data⟩], none⟩) (v := ?_) rfl (by kernel_rfl) (by kernel_rfl) (by kernel_rfl) (fun _ _ _ h => h) (Or.inl ⟨by rfl, ?_⟩) (by assumption) ?_
      rotate_left
      ·intro U hSw; obtain ⟨hSw0, hSw1⟩ := hSw; (go_simp <;> with_reducible rfl)
      try simp only [Act.put, nz1, nz2, nz3]
      refine wpAnyH_take (i := 4) (oi := ⟨some 69, .move (.tmp 68), 4, "outright.go:74", #[⟨3, .data⟩], none⟩) (v := ?_) rfl (by kernel_rfl) (by kernel_rfl) (by kernel_rfl) (fun _ _ _ h => h) (Or.inl ⟨by rfl, ?_⟩) (by assumption) ?_
      rotate_left
      ·intro U hSw; obtain ⟨hSw0, hSw1⟩ := hSw; (go_simp <;> with_reducible rfl)
      try simp only [Act.put, nz1, nz2, nz3]
      refine wpAnyH_take (i := 5) (oi := ⟨some 70, .move (.tmp 8), 24, "outright.go:74", #[⟨4, .guard⟩], some (4, true)⟩) (v := ?_) rfl (by kernel_rfl) (by kernel_rfl) (by kernel_rfl) (fun _ _ _ h => h) (Or.inl ⟨by rfl, ?_⟩) (by assumption) ?_
      rotate_left
      ·intro U hSw; obtain ⟨hSw0, hSw1⟩ := hSw; (go_simp <;> with_reducible rfl)
      try simp only [Act.put, nz1, nz2, nz3]
      refine wpAnyH_take (i := 6) (oi := ⟨some 71, .move (.tmp 11), 3, "outright.go:74", #[⟨4, .guard⟩], some (4, true)⟩) (v := ?_) rfl (by kernel_rfl) (by kernel_rfl) (by kernel_rfl) (fun _ _ _ h => h) (Or.inl ⟨by rfl, ?_⟩) (by assumption) ?_
      rotate_left
      ·intro U hSw; obtain ⟨hSw0, hSw1⟩ := hSw; (go_simp <;> with_reducible rfl)
      try simp only [Act.put, nz1, nz2, nz3]
      refine wpAnyH_take (i := 7) (oi := ⟨some 72, .indexAddr 24 (.tmp 70) (.tmp 71), 0, "outright.go:74", #[⟨5, .data⟩, ⟨6, .data⟩, ⟨4, .guard⟩], some (4, true)⟩) (v := ?_) rfl (by kernel_rfl) (by kernel_rfl) (by kernel_rfl) (fun _ _ _ h => h) (Or.inl ⟨by rfl, ?_⟩) (by assumption) ?_
      rotate_left
      ·intro U hSw; obtain ⟨hSw0, hSw1⟩ := hSw; (go_simp <;> with_reducible rfl)
      try simp only [Act.put, nz1, nz2, nz3]
      refine wpAnyH_take (i := 8) (oi := ⟨some 73, .load 36 (.tmp 72), 36, "outright.go:74", #[⟨7, .data⟩, ⟨4, .guard⟩], some (4, true)⟩) (v := .agg C2.toArray) rfl (by kernel_rfl) (by kernel_rfl) (by kernel_rfl) (fun _ _ _ h => h) (yieldsIf_load_mid (by rfl) _ _ rfl g2 (I * 22) rfl C2 _ (fun U hU => hU.1) Tryz.underlying36 rfl HZ2.out) (by assumption) ?_
      try simp only [Act.put, nz1, nz2, nz3]
      refine wpAnyH_take (i := 9) (oi := ⟨some 74, .move (.tmp 5), 24, "outright.go:74", #[⟨4, .guard⟩], some (4, true)⟩) (v := ?_) rfl (by kernel_rfl) (by kernel_rfl) (by kernel_rfl) (fun _ _ _ h => h) (Or.inl ⟨by rfl, ?_⟩) (by assumption) ?_
      rotate_left
      ·intro U hSw; obtain ⟨hSw0, hSw1⟩ := hSw; (go_simp <;> with_reducible rfl)
      try simp only [Act.put, nz1, nz2, nz3]
      refine wpAnyH_take (i := 10) (oi := ⟨some 75, .move (.tmp 11), 3, "outright.go:74", #[⟨4, .guard⟩], some (4, true)⟩) (v := ?_) rfl (by kernel_rfl) (by kernel_rfl) (by kernel_rfl) (fun _ _ _ h => h) (Or.inl ⟨by rfl, ?_⟩) (by assumption) ?_
      rotate_left
      ·intro U hSw; obtain ⟨hSw0, hSw1⟩ := hSw; (go_simp <;> with_reducible rfl)
      try simp only [Act.put, nz1, nz2, nz3]
      refine wpAnyH_take (i := 11) (oi := ⟨some 76, .indexAddr 24 (.tmp 74) (.tmp 75), 0, "outright.go:74", #[⟨9, .data⟩, ⟨10, .data⟩, ⟨4, .guard⟩], some (4, true)⟩) (v := ?_) rfl (by kernel_rfl) (by kernel_rfl) (by kernel_rfl) (fun _ _ _ h => h) (Or.inl ⟨by rfl, ?_⟩) (by assumption) ?_
      rotate_left
      ·intro U hSw; obtain ⟨hSw0, hSw1⟩ := hSw; (go_simp <;> with_reducible rfl)
      try simp only [Act.put, nz1, nz2, nz3]
      refine wpAnyH_take (i := 12) (oi := ⟨some 77, .load 36 (.tmp 76), 36, "outright.go:74", #[⟨11, .data⟩, ⟨4, .guard⟩], some (4, true)⟩) (v := .agg C1.toArray) rfl (by kernel_rfl) (by kernel_rfl) (by kernel_rfl) (fun _ _ _ h => h) (yieldsIf_load_mid (by rfl) _ _ rfl g1 (I * 22) rfl C1 _ (fun U hU => hU.2) Tryz.underlying36 rfl HZ1.out) (by assumption) ?_
      try simp only [Act.put, nz1, nz2, nz3]
      refine wpAnyH_ready (rs := [13]) (by kernel_rfl) (by simp) ?_
      refine AllReadyH.cons (o := ⟨some 78, .call ⟨.value (.func 11), #[.tmp 73, .tmp 77], #[36, 36]⟩, 4, "outright.go:74", #[⟨8, .data⟩, ⟨12, .data⟩, ⟨4, .chain⟩, ⟨4, .guard⟩], some (4, true)⟩) rfl (fun K hK => ?_) AllReadyH.nil
      rw [if_pos (by rfl)]
      go_simp
      go_at_call 11; with_reducible refine (HSM.out _ ((Fr.refl _ _).drew)).mono ?_; rintro e w5 ⟨rfl, K5⟩
      (try go_wp2_with fail)
      refine hK.out _ _ ?_ (fun hHeld5 => ?_)
      ·exact HK5.out _ K5.out
      clear hK K
      try simp only [Act.put, nz1, nz2, nz3]
      refine wpAnyH_take (i := 14) (oi := ⟨some 79, .unOp UnOp.not 4 (.tmp 78), 4, "outright.go:74", #[⟨13, .data⟩, ⟨4, .guard⟩], some (4, true)⟩) (v := ?_) rfl (by kernel_rfl) (by kernel_rfl) (by kernel_rfl) (fun _ _ _ h => h) (Or.inl ⟨by rfl, ?_⟩) (by assumption) ?_
      rotate_left
      ·intro U hSw; obtain ⟨hSw0, hSw1⟩ := hSw; (go_simp <;> with_reducible rfl)
      try simp only [Act.put, nz1, nz2, nz3]
      refine wpAnyH_take (i := 15) (oi := ⟨some 80, .pick (.tmp 69) (.tmp 79) (.const (Value.bool false)), 4, "outright.go:74", #[⟨4, .data⟩, ⟨14, .data⟩], none⟩) (v := ?_) rfl (by kernel_rfl) (by kernel_rfl) (by kernel_rfl) (fun _ _ _ h => h) (Or.inl ⟨by rfl, ?_⟩) (by assumption) ?_
      rotate_left
      ·intro U hSw; obtain ⟨hSw0, hSw1⟩ := hSw; (go_simp <;> with_reducible rfl)
      try simp only [Act.put, nz1, nz2, nz3]
      refine wpAnyH_done (by kernel_rfl) ?_ _
      go_wp2_with fail
      go_roundg (Ln - (I + 1))
      case measure => omega
      case rel => exact ⟨I + 1, by omega, by omega, by first | rfl | (congr 1), K.out.trans K5.out⟩
     ·have hi2 : ¬ (I : Int) < (Ln2 : Int) := by omega
      have hnx := hps.2 hl2
      have hD1 : decide (I < Ln2) = false := decide_eq_false hl2
      have hD2 : decide (y.x.next ≤ M) = false := decide_eq_false hnx
      clear hps hy hI1 ow1 hnx
      go_upto_region 14 with fail
      go_quiet (fail)
      go_wp2_with fail
      go_roundg (Ln - (I + 1))
      case measure => omega
      case rel => exact ⟨I + 1, by omega, by omega, by first | rfl | (congr 1), K.out.trans ((Fr.refl _ _).drewN _)⟩
    ·have hIi : ¬ (I : Int) < (Ln : Int) := by omega
     go_wp2_with fail
     exact HP.out _ (N4.out.trans K.out)
end Go.Proofs.YtlenihpbhlfcoaaGreatDoor
