import Derived.Test.YtlenihpbhlfcoaaGreatDoorWbv
set_option maxHeartbeats 8000000
set_option maxRecDepth 100000
set_option linter.unusedSimpArgs false
set_option linter.unusedVariables false
namespace Go.Proofs.YtlenihpbhlfcoaaGreatDoor
open Go.RowKit Go.Deep
def entL16 (n : ByteArray) (k md ud gd tm nn : Int) (us gr lk : ByteArray) (sz ty : Int) : List Value := [.string n, .int .i64 k, .int .u32 md, .int .u32 ud, .int .u32 gd, .int .i64 tm, .int .i32 nn, .string us, .string gr, .string lk, .int .i64 sz, .int .u8 ty]
theorem neqEnt (n : ByteArray) (k md ud gd tm nn : Int) (us gr lk : ByteArray) (sz ty : Int) (w : World) : (binOp BinOp.neq 32 (.agg (entL16 n k md ud gd tm nn us gr lk sz ty).toArray) (.agg (entL16 n k md ud gd tm nn us gr lk sz ty).toArray)).run Tryz.prog w = .ok (.bool false) w := by
 have u2 := Tryz.underlying2;have u3 := Tryz.underlying3;have u5 := Tryz.underlying5;have u9 := Tryz.underlying9;have hS : Tryz.prog.underlying 32 = some (.struct (Tryz.prog.fieldsOf 32)) := by kernel_rfl
 have he : (Op.equalIn 10000 32 (.agg (entL16 n k md ud gd tm nn us gr lk sz ty).toArray) (.agg (entL16 n k md ud gd tm nn us gr lk sz ty).toArray)).run Tryz.prog w = .ok true w := by
  unfold entL16;rw [show (10000 : Nat) = 9999 + 1 from rfl, run_equalIn_agg w 9999 32 _ _ hS (by kernel_rfl)];simp only [Program.fieldsOf, Tryz.underlying32];go_simp
 have he' : (Op.equalIn Op.maxDepth 32 (.agg (entL16 n k md ud gd tm nn us gr lk sz ty).toArray) (.agg (entL16 n k md ud gd tm nn us gr lk sz ty).toArray)).run Tryz.prog w = .ok true w := he;simp [binOp, Op.equal, he']
theorem neqRg (a b : Int) (w : World) : (binOp BinOp.neq 54 (.agg #[.int .i64 a, .int .i64 b]) (.agg #[.int .i64 a, .int .i64 b])).run Tryz.prog w = .ok (.bool false) w := by
 have u2 := Tryz.underlying2;have hS : Tryz.prog.underlying 54 = some (.struct (Tryz.prog.fieldsOf 54)) := by kernel_rfl
 have he : (Op.equalIn 10000 54 (.agg #[.int .i64 a, .int .i64 b]) (.agg #[.int .i64 a, .int .i64 b])).run Tryz.prog w = .ok true w := by
  rw [show (10000 : Nat) = 9999 + 1 from rfl, run_equalIn_agg w 9999 54 _ _ hS (by kernel_rfl)];simp only [Program.fieldsOf, Tryz.underlying54];go_simp
 have he' : (Op.equalIn Op.maxDepth 54 (.agg #[.int .i64 a, .int .i64 b]) (.agg #[.int .i64 a, .int .i64 b])).run Tryz.prog w = .ok true w := he;simp [binOp, Op.equal, he']
theorem neqPr (a b : ByteArray) (w : World) : (binOp BinOp.neq 56 (.agg #[.string a, .string b]) (.agg #[.string a, .string b])).run Tryz.prog w = .ok (.bool false) w := by
 have u9 := Tryz.underlying9;have hS : Tryz.prog.underlying 56 = some (.struct (Tryz.prog.fieldsOf 56)) := by kernel_rfl
 have he : (Op.equalIn 10000 56 (.agg #[.string a, .string b]) (.agg #[.string a, .string b])).run Tryz.prog w = .ok true w := by
  rw [show (10000 : Nat) = 9999 + 1 from rfl, run_equalIn_agg w 9999 56 _ _ hS (by kernel_rfl)];simp only [Program.fieldsOf, Tryz.underlying56];go_simp
 have he' : (Op.equalIn Op.maxDepth 56 (.agg #[.string a, .string b]) (.agg #[.string a, .string b])).run Tryz.prog w = .ok true w := he;simp [binOp, Op.equal, he']
def neE16 (x y : Value) : Sem Value := binOp BinOp.neq 32 x y
theorem neE16_fold (x y : Value) : binOp BinOp.neq 32 x y = neE16 x y := rfl
attribute [local go_sem ↓] neE16_fold
theorem stepV {O : Array Oper} {rest : List Oper} {o : Oper} {a : Act} {w : World} {Q : Exit → Act → World → Prop} (hw : Region.wanted o (yielded O a.tmps) = true) (v : Value) (hv : (execOp a.eval o).run Tryz.prog w = .ok (.value v) w) (h : wpList Tryz.prog O Q rest (a.put o.dst v) w) : wpList Tryz.prog O Q (o :: rest) a w := wpList_step fun K hK => by
 rw [if_pos hw];show o.upon Tryz.prog a K Q ((execOp a.eval o).run Tryz.prog w);rw [hv];exact hK _ _ h
theorem qxsame_any {X Z : Nat → Prop} (w : World) (y z : Ix) (hx : y.x = z.x) (hy : IxW X y w) (hz : IxW Z z w) : Calls Tryz.prog 11 #[.agg y.C, .agg z.C] w fun e w' => e = .returned (.bool true) ∧ Nw w w' := by
 refine asP fun P hP => ?_
 obtain ⟨x, ma, mn, mc, pa, pn, pc⟩ := y;obtain ⟨x', ma', mn', mc', pa', pn', pc'⟩ := z;simp only at hx;subst hx;have HM1 : SlR RG X (.slice ma mn mc) x.map w := hy.m;have HM2 : SlR RG Z (.slice ma' mn' mc') x.map w := hz.m;have HP1 : SlR RP X (.slice pa pn pc) x.pairs w := hy.p;have HP2 : SlR RP Z (.slice pa' pn' pc') x.pairs w := hz.p;clear hy hz;have fm1 : mn = x.map.length ∧ x.map.length ≤ mc ∧ mc < 9223372036854775808 := by
  obtain ⟨a, c, e, h1, h2, _⟩ := HM1.form;injection e with e1 e2 e3;exact ⟨e2, by omega, by omega⟩
 have fm2 : mn' = x.map.length ∧ x.map.length ≤ mc' ∧ mc' < 9223372036854775808 := by
  obtain ⟨a, c, e, h1, h2, _⟩ := HM2.form;injection e with e1 e2 e3;exact ⟨e2, by omega, by omega⟩
 have fp1 : pn = x.pairs.length ∧ x.pairs.length ≤ pc ∧ pc < 9223372036854775808 := by
  obtain ⟨a, c, e, h1, h2, _⟩ := HP1.form;injection e with e1 e2 e3;exact ⟨e2, by omega, by omega⟩
 have fp2 : pn' = x.pairs.length ∧ x.pairs.length ≤ pc' ∧ pc' < 9223372036854775808 := by
  obtain ⟨a, c, e, h1, h2, _⟩ := HP2.form;injection e with e1 e2 e3;exact ⟨e2, by omega, by omega⟩
 obtain ⟨rfl, fm3, fm4⟩ := fm1;obtain ⟨e2, fm5, fm6⟩ := fm2;subst e2;obtain ⟨rfl, fp3, fp4⟩ := fp1;obtain ⟨e4, fp5, fp6⟩ := fp2;subst e4;unfold Ix.C;simp only;generalize x.map = M at *;generalize x.pairs = L at *;obtain ⟨EC, hEC⟩ : ∃ EC, entL16 x.name (x.kind : Nat) (x.mode : Nat) (x.uid : Nat) (x.gid : Nat) x.time (x.nano : Nat) x.user x.group x.link x.size x.typ.toNat = EC := ⟨_, rfl⟩;obtain ⟨E, hE⟩ : ∃ E, EC.toArray = E := ⟨_, rfl⟩
 have HNE : Hid (∀ W, (binOp BinOp.neq 32 (.agg E) (.agg E)).run Tryz.prog W = .ok (.bool false) W) := fun W => by rw [← hE, ← hEC]; exact neqEnt _ _ _ _ _ _ _ _ _ _ _ _ W
 have HSZ : Hid ((Tryz.prog.info? 32).map (·.size) = some EC.length) := by
  have q : (Tryz.prog.info? 32).map (·.size) = some 12 := by kernel_rfl
  rw [← hEC]; exact q
 obtain ⟨W0, hW0⟩ : ∃ W0, w.alloc (.cells (icC x x.size x.frm x.head x.data x.next (.slice ma M.length mc) (.slice pa L.length pc)) 36) = W0 := ⟨_, rfl⟩;obtain ⟨W1, hW1⟩ : ∃ W1, W0.alloc (.cells (icC x x.size x.frm x.head x.data x.next (.slice ma' M.length mc') (.slice pa' L.length pc')) 36) = W1 := ⟨_, rfl⟩;have s0 : W0.heap.size = w.heap.size + 1 := by rw [← hW0]; simp
 have n0 : Nw w W0 := by rw [← hW0]; exact (Fr.refl _ _).alloc _
 have n1 : Nw W0 W1 := by rw [← hW1]; exact (Fr.refl _ _).alloc _
 have r0 : W1.heap[w.heap.size]? = some (.cells (icC x x.size x.frm x.head x.data x.next (.slice ma M.length mc) (.slice pa L.length pc)) 36) := Nw.heap n1 (by rw [← hW0]; exact newHeap _ _);have r1 : W1.heap[w.heap.size + 1]? = some (.cells (icC x x.size x.frm x.head x.data x.next (.slice ma' M.length mc') (.slice pa' L.length pc')) 36) := by rw [← hW1, ← s0]; exact newHeap _ _
 have HF : Hid (∀ V, Nw W1 V → P (.returned (.bool true)) V) := fun V hV => by rw [hP]; exact ⟨rfl, (n0.trans n1).trans hV⟩
 have HA1 : Hid (∀ V, Nw W1 V → SlR RG X (.slice ma M.length mc) M V) := fun V hV => (HM1.nw (n0.trans n1)).nw hV
 have HA2 : Hid (∀ V, Nw W1 V → SlR RG Z (.slice ma' M.length mc') M V) := fun V hV => (HM2.nw (n0.trans n1)).nw hV
 have HB1 : Hid (∀ V, Nw W1 V → SlR RP X (.slice pa L.length pc) L V) := fun V hV => (HP1.nw (n0.trans n1)).nw hV
 have HB2 : Hid (∀ V, Nw W1 V → SlR RP Z (.slice pa' L.length pc') L V) := fun V hV => (HP2.nw (n0.trans n1)).nw hV
 have HCA : Hid (∀ V, Nw W1 V → V.cell? ⟨w.heap.size, 20, none⟩ = some (.slice ma M.length mc) ∧ V.cell? ⟨w.heap.size + 1, 20, none⟩ = some (.slice ma' M.length mc') ∧ V.cell? ⟨w.heap.size, 21, none⟩ = some (.slice pa L.length pc) ∧ V.cell? ⟨w.heap.size + 1, 21, none⟩ = some (.slice pa' L.length pc')) := fun V hV =>
  ⟨cell_of (Nw.heap hV r0) 20 _ rfl, cell_of (Nw.heap hV r1) 20 _ rfl, cell_of (Nw.heap hV r0) 21 _ rfl, cell_of (Nw.heap hV r1) 21 _ rfl⟩
 have HR0 : Hid (W1.rangeAt w.heap.size 0 EC) := by
  rw [← hEC];intro j v hv;rw [Nat.zero_add];refine cell_of r0 j v ?_;have hj : j < 12 := (List.getElem?_eq_some_iff.1 hv).1;have : ∀ j, j < 12 → ∀ v, (entL16 x.name (x.kind : Nat) (x.mode : Nat) (x.uid : Nat) (x.gid : Nat) x.time (x.nano : Nat) x.user x.group x.link x.size x.typ.toNat)[j]? = some v → (icC x x.size x.frm x.head x.data x.next (.slice ma M.length mc) (.slice pa L.length pc))[j]? = some v := by
   intro j hj v hv
   match j, hj with
   | 0, _ | 1, _ | 2, _ | 3, _ | 4, _ | 5, _ | 6, _ | 7, _ | 8, _ | 9, _ | 10, _ | 11, _ => exact hv
  exact this j hj v hv
 have HR1 : Hid (W1.rangeAt (w.heap.size + 1) 0 EC) := by
  rw [← hEC];intro j v hv;rw [Nat.zero_add];refine cell_of r1 j v ?_;have hj : j < 12 := (List.getElem?_eq_some_iff.1 hv).1;have : ∀ j, j < 12 → ∀ v, (entL16 x.name (x.kind : Nat) (x.mode : Nat) (x.uid : Nat) (x.gid : Nat) x.time (x.nano : Nat) x.user x.group x.link x.size x.typ.toNat)[j]? = some v → (icC x x.size x.frm x.head x.data x.next (.slice ma' M.length mc') (.slice pa' L.length pc'))[j]? = some v := by
   intro j hj v hv
   match j, hj with
   | 0, _ | 1, _ | 2, _ | 3, _ | 4, _ | 5, _ | 6, _ | 7, _ | 8, _ | 9, _ | 10, _ | 11, _ => exact hv
  exact this j hj v hv
 have c0 := fun j v hv => cell_of r0 j v hv
 have d0 := fun j v hv => cell_of r1 j v hv
 have c12 : W1.cell? ⟨w.heap.size, 12, none⟩ = some (.int .i64 x.form) := c0 12 _ rfl;have c13 : W1.cell? ⟨w.heap.size, 13, none⟩ = some (.int .u8 x.htyp.toNat) := c0 13 _ rfl;have c14 : W1.cell? ⟨w.heap.size, 14, none⟩ = some (.int .i64 (x.frm : Nat)) := c0 14 _ rfl;have c15 : W1.cell? ⟨w.heap.size, 15, none⟩ = some (.int .i64 (x.head : Nat)) := c0 15 _ rfl;have c16 : W1.cell? ⟨w.heap.size, 16, none⟩ = some (.int .i64 (x.data : Nat)) := c0 16 _ rfl;have c17 : W1.cell? ⟨w.heap.size, 17, none⟩ = some (.int .i64 (x.next : Nat)) := c0 17 _ rfl
 have c18 : W1.cell? ⟨w.heap.size, 18, none⟩ = some (.int .i64 (x.held : Nat)) := c0 18 _ rfl;have c19 : W1.cell? ⟨w.heap.size, 19, none⟩ = some (.bool x.sparse) := c0 19 _ rfl;have c20 : W1.cell? ⟨w.heap.size, 20, none⟩ = some (.slice ma M.length mc) := c0 20 _ rfl;have c21 : W1.cell? ⟨w.heap.size, 21, none⟩ = some (.slice pa L.length pc) := c0 21 _ rfl;have d12 : W1.cell? ⟨w.heap.size + 1, 12, none⟩ = some (.int .i64 x.form) := d0 12 _ rfl;have d13 : W1.cell? ⟨w.heap.size + 1, 13, none⟩ = some (.int .u8 x.htyp.toNat) := d0 13 _ rfl
 have d14 : W1.cell? ⟨w.heap.size + 1, 14, none⟩ = some (.int .i64 (x.frm : Nat)) := d0 14 _ rfl;have d15 : W1.cell? ⟨w.heap.size + 1, 15, none⟩ = some (.int .i64 (x.head : Nat)) := d0 15 _ rfl;have d16 : W1.cell? ⟨w.heap.size + 1, 16, none⟩ = some (.int .i64 (x.data : Nat)) := d0 16 _ rfl;have d17 : W1.cell? ⟨w.heap.size + 1, 17, none⟩ = some (.int .i64 (x.next : Nat)) := d0 17 _ rfl;have d18 : W1.cell? ⟨w.heap.size + 1, 18, none⟩ = some (.int .i64 (x.held : Nat)) := d0 18 _ rfl;have d19 : W1.cell? ⟨w.heap.size + 1, 19, none⟩ = some (.bool x.sparse) := d0 19 _ rfl
 have d20 : W1.cell? ⟨w.heap.size + 1, 20, none⟩ = some (.slice ma' M.length mc') := d0 20 _ rfl;have d21 : W1.cell? ⟨w.heap.size + 1, 21, none⟩ = some (.slice pa' L.length pc') := d0 21 _ rfl;have HW0 := tHid hW0;have HW1 := tHid hW1;have HE := tHid hE;clear c0 d0 r0 r1 n0 n1 s0 hP HM1 HM2 HP1 HP2 hW0 hW1 hE hEC;obtain ⟨CY, hCY⟩ : ∃ CY, icC x x.size x.frm x.head x.data x.next (.slice ma M.length mc) (.slice pa L.length pc) = CY := ⟨_, rfl⟩;obtain ⟨CZ, hCZ⟩ : ∃ CZ, icC x x.size x.frm x.head x.data x.next (.slice ma' M.length mc') (.slice pa' L.length pc') = CZ := ⟨_, rfl⟩;rw [hCY] at HW0 ⊢
 rw [hCZ] at HW1 ⊢;clear hCY hCZ;have HFM := tHid fm3;have HFM5 := tHid fm5;have HFP3 := tHid fp3;have HFP5 := tHid fp5;have HFP9 : Hid (L.length ≤ pc ∧ L.length ≤ pc') := ⟨fp3, fp5⟩;have HFM9 : Hid (M.length ≤ mc ∧ M.length ≤ mc') := ⟨fm3, fm5⟩;have HC4 : Hid (mc < 9223372036854775808 ∧ mc' < 9223372036854775808 ∧ pc < 9223372036854775808 ∧ pc' < 9223372036854775808) := ⟨fm4, fm6, fp4, fp6⟩;clear fm3 fm4 fm5 fm6 fp3 fp4 fp5 fp6;generalize x.form = z12 at *;generalize x.htyp.toNat = z13 at *;generalize x.frm = z14 at *;generalize x.head = z15 at *;generalize x.data = z16 at *
 generalize x.next = z17 at *;generalize x.held = z18 at *;generalize x.sparse = z19 at *;have HMI : Hid (∀ I : Nat, I < M.length → ∃ x, M[I]? = some x) := fun I hI => ⟨_, List.getElem?_eq_getElem hI⟩
 have HLI : Hid (∀ I : Nat, I < L.length → ∃ x, L[I]? = some x) := fun I hI => ⟨_, List.getElem?_eq_getElem hI⟩
 generalize M.length = LM at *;generalize L.length = LL at *;go_enter Tryz.func11, Tryz.ntmps11;go_upto_region 1 with fail;rw [HW0.out, HW1.out];have hne : (neE16 (.agg E) (.agg E)).run Tryz.prog W1 = .ok (.bool false) W1 := HNE.out W1;refine wp_region_lit ?_;generalize hO : List.toArray _ = O;refine stepV (by rw [← hO]; kernel_rfl) (.pointer (some ⟨w.heap.size, 0, none⟩)) (by kernel_rfl) ?_;refine wpList_load_mid rfl 32 _ rfl w.heap.size 0 (by kernel_rfl) EC _ HR0.out Tryz.underlying32 rfl HSZ.out ?_;rw [HE.out]
 refine stepV (by rw [← hO]; kernel_rfl) (.pointer (some ⟨w.heap.size + 1, 0, none⟩)) (by kernel_rfl) ?_;refine wpList_load_mid rfl 32 _ rfl (w.heap.size + 1) 0 (by kernel_rfl) EC _ HR1.out Tryz.underlying32 rfl HSZ.out ?_;rw [HE.out];simp only [Act.put, nz1, nz2, nz3];refine stepV (by rw [← hO]; kernel_rfl) (.bool false) (by unfold execOp; go_simp) ?_;refine stepV (by rw [← hO]; kernel_rfl) (.bool false) (by kernel_rfl) ?_;refine stepV (by rw [← hO]; kernel_rfl) (.pointer (some ⟨w.heap.size, 12, none⟩)) (by kernel_rfl) ?_
 refine stepV (by rw [← hO]; kernel_rfl) (.int .i64 z12) (by unfold execOp; go_simp) ?_;simp only [Act.put, nz1, nz2, nz3];refine stepV (by rw [← hO]; kernel_rfl) (.pointer (some ⟨w.heap.size + 1, 12, none⟩)) (by kernel_rfl) ?_;refine stepV (by rw [← hO]; kernel_rfl) (.int .i64 z12) (by unfold execOp; go_simp) ?_;refine stepV (by rw [← hO]; kernel_rfl) (.bool false) (by unfold execOp; go_simp) ?_;refine stepV (by rw [← hO]; kernel_rfl) (.bool false) (by kernel_rfl) ?_
 simp only [Act.put, nz1, nz2, nz3];refine stepV (by rw [← hO]; kernel_rfl) (.bool false) (by kernel_rfl) ?_;refine stepV (by rw [← hO]; kernel_rfl) (.pointer (some ⟨w.heap.size, 13, none⟩)) (by kernel_rfl) ?_;refine stepV (by rw [← hO]; kernel_rfl) (.int .u8 (z13 : Nat)) (by unfold execOp; go_simp) ?_;refine stepV (by rw [← hO]; kernel_rfl) (.pointer (some ⟨w.heap.size + 1, 13, none⟩)) (by kernel_rfl) ?_;simp only [Act.put, nz1, nz2, nz3]
 refine stepV (by rw [← hO]; kernel_rfl) (.int .u8 (z13 : Nat)) (by unfold execOp; go_simp) ?_;refine stepV (by rw [← hO]; kernel_rfl) (.bool false) (by unfold execOp; go_simp) ?_;refine stepV (by rw [← hO]; kernel_rfl) (.bool false) (by kernel_rfl) ?_;refine stepV (by rw [← hO]; kernel_rfl) (.bool false) (by kernel_rfl) ?_;simp only [Act.put, nz1, nz2, nz3];refine stepV (by rw [← hO]; kernel_rfl) (.pointer (some ⟨w.heap.size, 14, none⟩)) (by kernel_rfl) ?_
 refine stepV (by rw [← hO]; kernel_rfl) (.int .i64 (z14 : Nat)) (by unfold execOp; go_simp) ?_;refine stepV (by rw [← hO]; kernel_rfl) (.pointer (some ⟨w.heap.size + 1, 14, none⟩)) (by kernel_rfl) ?_;refine stepV (by rw [← hO]; kernel_rfl) (.int .i64 (z14 : Nat)) (by unfold execOp; go_simp) ?_;simp only [Act.put, nz1, nz2, nz3];refine stepV (by rw [← hO]; kernel_rfl) (.bool false) (by unfold execOp; go_simp) ?_;refine stepV (by rw [← hO]; kernel_rfl) (.bool false) (by kernel_rfl) ?_
 refine stepV (by rw [← hO]; kernel_rfl) (.bool false) (by kernel_rfl) ?_;refine stepV (by rw [← hO]; kernel_rfl) (.pointer (some ⟨w.heap.size, 15, none⟩)) (by kernel_rfl) ?_;simp only [Act.put, nz1, nz2, nz3];refine stepV (by rw [← hO]; kernel_rfl) (.int .i64 (z15 : Nat)) (by unfold execOp; go_simp) ?_;refine stepV (by rw [← hO]; kernel_rfl) (.pointer (some ⟨w.heap.size + 1, 15, none⟩)) (by kernel_rfl) ?_;refine stepV (by rw [← hO]; kernel_rfl) (.int .i64 (z15 : Nat)) (by unfold execOp; go_simp) ?_
 refine stepV (by rw [← hO]; kernel_rfl) (.bool false) (by unfold execOp; go_simp) ?_;simp only [Act.put, nz1, nz2, nz3];refine stepV (by rw [← hO]; kernel_rfl) (.bool false) (by kernel_rfl) ?_;refine stepV (by rw [← hO]; kernel_rfl) (.bool false) (by kernel_rfl) ?_;refine stepV (by rw [← hO]; kernel_rfl) (.pointer (some ⟨w.heap.size, 16, none⟩)) (by kernel_rfl) ?_;refine stepV (by rw [← hO]; kernel_rfl) (.int .i64 (z16 : Nat)) (by unfold execOp; go_simp) ?_
 simp only [Act.put, nz1, nz2, nz3];refine stepV (by rw [← hO]; kernel_rfl) (.pointer (some ⟨w.heap.size + 1, 16, none⟩)) (by kernel_rfl) ?_;refine stepV (by rw [← hO]; kernel_rfl) (.int .i64 (z16 : Nat)) (by unfold execOp; go_simp) ?_;refine stepV (by rw [← hO]; kernel_rfl) (.bool false) (by unfold execOp; go_simp) ?_;refine stepV (by rw [← hO]; kernel_rfl) (.bool false) (by kernel_rfl) ?_;simp only [Act.put, nz1, nz2, nz3]
 refine stepV (by rw [← hO]; kernel_rfl) (.bool false) (by kernel_rfl) ?_;refine stepV (by rw [← hO]; kernel_rfl) (.pointer (some ⟨w.heap.size, 17, none⟩)) (by kernel_rfl) ?_;refine stepV (by rw [← hO]; kernel_rfl) (.int .i64 (z17 : Nat)) (by unfold execOp; go_simp) ?_;refine stepV (by rw [← hO]; kernel_rfl) (.pointer (some ⟨w.heap.size + 1, 17, none⟩)) (by kernel_rfl) ?_;simp only [Act.put, nz1, nz2, nz3];refine stepV (by rw [← hO]; kernel_rfl) (.int .i64 (z17 : Nat)) (by unfold execOp; go_simp) ?_
 refine stepV (by rw [← hO]; kernel_rfl) (.bool false) (by unfold execOp; go_simp) ?_;refine stepV (by rw [← hO]; kernel_rfl) (.bool false) (by kernel_rfl) ?_;refine stepV (by rw [← hO]; kernel_rfl) (.bool false) (by kernel_rfl) ?_;simp only [Act.put, nz1, nz2, nz3];refine stepV (by rw [← hO]; kernel_rfl) (.pointer (some ⟨w.heap.size, 18, none⟩)) (by kernel_rfl) ?_;refine stepV (by rw [← hO]; kernel_rfl) (.int .i64 (z18 : Nat)) (by unfold execOp; go_simp) ?_
 refine stepV (by rw [← hO]; kernel_rfl) (.pointer (some ⟨w.heap.size + 1, 18, none⟩)) (by kernel_rfl) ?_;refine stepV (by rw [← hO]; kernel_rfl) (.int .i64 (z18 : Nat)) (by unfold execOp; go_simp) ?_;simp only [Act.put, nz1, nz2, nz3];refine stepV (by rw [← hO]; kernel_rfl) (.bool false) (by unfold execOp; go_simp) ?_;refine stepV (by rw [← hO]; kernel_rfl) (.bool false) (by kernel_rfl) ?_;refine stepV (by rw [← hO]; kernel_rfl) (.bool false) (by kernel_rfl) ?_
 refine stepV (by rw [← hO]; kernel_rfl) (.pointer (some ⟨w.heap.size, 19, none⟩)) (by kernel_rfl) ?_;simp only [Act.put, nz1, nz2, nz3];refine stepV (by rw [← hO]; kernel_rfl) (.bool z19) (by unfold execOp; go_simp) ?_;refine stepV (by rw [← hO]; kernel_rfl) (.pointer (some ⟨w.heap.size + 1, 19, none⟩)) (by kernel_rfl) ?_;refine stepV (by rw [← hO]; kernel_rfl) (.bool z19) (by unfold execOp; go_simp) ?_;refine stepV (by rw [← hO]; kernel_rfl) (.bool false) (by unfold execOp; go_simp) ?_
 simp only [Act.put, nz1, nz2, nz3];refine stepV (by rw [← hO]; kernel_rfl) (.bool false) (by kernel_rfl) ?_;refine stepV (by rw [← hO]; kernel_rfl) (.bool false) (by kernel_rfl) ?_;refine stepV (by rw [← hO]; kernel_rfl) (.pointer (some ⟨w.heap.size, 20, none⟩)) (by kernel_rfl) ?_;refine stepV (by rw [← hO]; kernel_rfl) (.slice ma LM mc) (by unfold execOp; go_simp) ?_;simp only [Act.put, nz1, nz2, nz3]
 refine stepV (by rw [← hO]; kernel_rfl) (.int .i64 (LM : Nat)) (by unfold execOp; go_simp) ?_;refine stepV (by rw [← hO]; kernel_rfl) (.pointer (some ⟨w.heap.size + 1, 20, none⟩)) (by kernel_rfl) ?_;refine stepV (by rw [← hO]; kernel_rfl) (.slice ma' LM mc') (by unfold execOp; go_simp) ?_;refine stepV (by rw [← hO]; kernel_rfl) (.int .i64 (LM : Nat)) (by unfold execOp; go_simp) ?_;simp only [Act.put, nz1, nz2, nz3];refine stepV (by rw [← hO]; kernel_rfl) (.bool false) (by unfold execOp; go_simp) ?_
 refine stepV (by rw [← hO]; kernel_rfl) (.bool false) (by kernel_rfl) ?_;refine stepV (by rw [← hO]; kernel_rfl) (.bool false) (by kernel_rfl) ?_;refine stepV (by rw [← hO]; kernel_rfl) (.pointer (some ⟨w.heap.size, 21, none⟩)) (by kernel_rfl) ?_;simp only [Act.put, nz1, nz2, nz3];refine stepV (by rw [← hO]; kernel_rfl) (.slice pa LL pc) (by unfold execOp; go_simp) ?_;refine stepV (by rw [← hO]; kernel_rfl) (.int .i64 (LL : Nat)) (by unfold execOp; go_simp) ?_
 refine stepV (by rw [← hO]; kernel_rfl) (.pointer (some ⟨w.heap.size + 1, 21, none⟩)) (by kernel_rfl) ?_;refine stepV (by rw [← hO]; kernel_rfl) (.slice pa' LL pc') (by unfold execOp; go_simp) ?_;simp only [Act.put, nz1, nz2, nz3];refine stepV (by rw [← hO]; kernel_rfl) (.int .i64 (LL : Nat)) (by unfold execOp; go_simp) ?_;refine stepV (by rw [← hO]; kernel_rfl) (.bool false) (by unfold execOp; go_simp) ?_;refine stepV (by rw [← hO]; kernel_rfl) (.bool false) (by kernel_rfl) ?_
 try simp only [Act.put, nz1, nz2, nz3]
 refine wpList_nil ?_
 go_wp2_with fail
 go_loopg [5] LM (fun kx v wr => ∃ I : Nat, I ≤ LM ∧ LM - I ≤ kx ∧ v = .int .i64 I ∧ Hid (Nw W1 wr))
 case atStart => exact ⟨0, by omega, by omega, rfl, Fr.refl _ _⟩
 case round =>
  obtain ⟨I, hI, hkx, rfl, K⟩ := hrel;obtain ⟨k20, l20, k21, l21⟩ := HCA.out wr K.out;by_cases hlt : I < LM
  ·have hIi : (I : Int) < (LM : Int) := by omega
   have hD : decide (I < LM) = true := decide_eq_true hlt;obtain ⟨q, hq⟩ := HMI.out I hlt;obtain ⟨ga, oa, ea, _, ca⟩ := (HA1.out wr K.out).at I q hq;obtain ⟨gb, ob, eb, _, cb⟩ := (HA2.out wr K.out).at I q hq;subst ea eb;have a0 : wr.cell? ⟨ga, oa + I * 2, none⟩ = some (.int .i64 q.1) := ca 0 _ rfl;have a1 : wr.cell? ⟨ga, oa + I * 2 + 1, none⟩ = some (.int .i64 q.2) := ca 1 _ rfl;have b0 : wr.cell? ⟨gb, ob + I * 2, none⟩ = some (.int .i64 q.1) := cb 0 _ rfl;have b1 : wr.cell? ⟨gb, ob + I * 2 + 1, none⟩ = some (.int .i64 q.2) := cb 1 _ rfl;clear ca cb hq;have hnq := fun w => neqRg q.1 q.2 w
   obtain ⟨qa, qb⟩ := q;simp only at *;have hw1 : wrap64 ((I : Int) + 1) = (I : Int) + 1 := by
    have := HC4.out;have := HFM9.out;have := HFP9.out;unfold wrap64;omega
   obtain ⟨hcm, hcn⟩ := HFM9.out
   go_wp2_with fail
   go_quiet (fail)
   go_wp2_with fail
   go_roundg (LM - (I + 1))
   case measure => omega
   case rel => exact ⟨I + 1, by omega, by omega, by first | rfl | (congr 1), K.out.trans ((Fr.refl _ _).drewN _)⟩
  ·have hIi : ¬ (I : Int) < (LM : Int) := by omega
   have hD : decide (I < LM) = false := decide_eq_false hlt
   go_wp2_with fail
   go_loopg [6] LL (fun kx v wr => ∃ I : Nat, I ≤ LL ∧ LL - I ≤ kx ∧ v = .int .i64 I ∧ Hid (Nw W1 wr))
   case atStart => exact ⟨0, by omega, by omega, rfl, K.out⟩
   case round =>
    obtain ⟨I, hI, hkx, rfl, K⟩ := hrel;obtain ⟨k20, l20, k21, l21⟩ := HCA.out wr K.out;by_cases hlt : I < LL
    ·have hIi : (I : Int) < (LL : Int) := by omega
     have hD : decide (I < LL) = true := decide_eq_true hlt;obtain ⟨q, hq⟩ := HLI.out I hlt;obtain ⟨ga, oa, ea, _, ca⟩ := (HB1.out wr K.out).at I q hq;obtain ⟨gb, ob, eb, _, cb⟩ := (HB2.out wr K.out).at I q hq;subst ea eb;have a0 : wr.cell? ⟨ga, oa + I * 2, none⟩ = some (.string (str q.1)) := ca 0 _ rfl;have a1 : wr.cell? ⟨ga, oa + I * 2 + 1, none⟩ = some (.string (str q.2)) := ca 1 _ rfl;have b0 : wr.cell? ⟨gb, ob + I * 2, none⟩ = some (.string (str q.1)) := cb 0 _ rfl;have b1 : wr.cell? ⟨gb, ob + I * 2 + 1, none⟩ = some (.string (str q.2)) := cb 1 _ rfl;clear ca cb hq
     have hnq := fun w => neqPr (str q.1) (str q.2) w
     obtain ⟨qa, qb⟩ := q;simp only at *;generalize str qa = sa at *;generalize str qb = sb at *;have hw1 : wrap64 ((I : Int) + 1) = (I : Int) + 1 := by
      have := HC4.out;have := HFM9.out;have := HFP9.out;unfold wrap64;omega
     obtain ⟨hcm, hcn⟩ := HFP9.out
     go_wp2_with fail
     go_quiet (fail)
     go_wp2_with fail
     go_roundg (LL - (I + 1))
     case measure => omega
     case rel => exact ⟨I + 1, by omega, by omega, by first | rfl | (congr 1), K.out.trans ((Fr.refl _ _).drewN _)⟩
    ·have hIi : ¬ (I : Int) < (LL : Int) := by omega
     have hD : decide (I < LL) = false := decide_eq_false hlt
     go_wp2_with fail
     exact HF.out _ K.out
end Go.Proofs.YtlenihpbhlfcoaaGreatDoor
