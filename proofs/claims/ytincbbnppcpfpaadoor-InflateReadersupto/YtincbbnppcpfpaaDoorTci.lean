import Derived.Test.YtincbbnppcpfpaaDoorTch
import Derived.Test.YtincbbnppcpfpaaDoorTba
import Derived.Deep.RegionHeld3
import Derived.Great.BuildSlice
import Derived.Deep.CutBlock
namespace Go.Proofs.YtincbbnppcpfpaaDoor
open Go.RowKit
set_option linter.unusedVariables false
variable {sb ga cg most p er : Nat} {b out : List By} {og : Option Nat} {vo : Value} {w : World} {ls : List Nat}
theorem goodD_small (ls : List Nat) : goodD ls false = true ↔ (Cod ls ∧ room ls = 32768) := by unfold goodD; simp
theorem goodD_true (ls : List Nat) : goodD ls true = true ↔ Good ls := by unfold goodD Good; simp
/-- The first three numbers, as the walk wants them. -/
theorem own3' (h : DsI sb ga cg b most p og vo out 0 w) (R : Rz ((List Nat × List Nat) × Bt)) (hR : R = ownR (bt b p)) :
    Calls Tryd.prog 36 #[.pointer (some ⟨sb, 0, none⟩), .int .i64 5] w fun e w1 => ∃ x1 A : Nat, e = .returned (.int .i64 x1) ∧ x1 < 32 ∧ (x1 : Int) + 257 = (A : Int) ∧ Hid (Calls Tryd.prog 36 #[.pointer (some ⟨sb, 0, none⟩), .int .i64 5] w1 fun e w2 => ∃ x2 D : Nat, e = .returned (.int .i64 x2) ∧ x2 < 32 ∧ (x2 : Int) + 1 = (D : Int) ∧ Hid (Calls Tryd.prog 36 #[.pointer (some ⟨sb, 0, none⟩), .int .i64 4] w2 fun e w3 => ∃ x3 n p3 er3 : Nat, e = .returned (.int .i64 x3) ∧ x3 < 16 ∧ (x3 : Int) + 4 = (n : Int) ∧ p ≤ p3 ∧ Hid (DsI sb ga cg b most p3 og vo out er3 w3 ∧ Fr (fun k => k = sb) w w3 ∧ Cn b R er3 p3 (if 286 < A ∨ 30 < D then failR 62 else bindR (smallR 0 n (List.replicate 19 0)) (ownL A (A + D)))))) := by
  refine (own3 h R hR).mono ?_
  rintro e w1 ⟨x1, rfl, h1, H1⟩
  refine ⟨x1, x1 + 257, rfl, h1, by omega, ?_⟩
  show Calls _ _ _ _ _
  refine H1.out.mono ?_
  rintro e w2 ⟨x2, rfl, h2, H2⟩
  refine ⟨x2, x2 + 1, rfl, h2, by omega, ?_⟩
  show Calls _ _ _ _ _
  refine H2.out.mono ?_
  rintro e w3 ⟨x3, p3, er3, rfl, h3, h4, H3⟩
  exact ⟨x3, x3 + 4, p3, er3, rfl, h3, by omega, h4, H3⟩
theorem small_start (w5 : World) (hlo : Lo sb ga og w5) (d : DsI sb ga cg b most p og vo out er w5) {R : Rz ((List Nat × List Nat) × Bt)} {A N n p0 : Nat} (hp : p0 ≤ p) (hc : Cn b R er p (bindR (smallR 0 n (List.replicate 19 0)) (ownL A N))) (Z : Array Value) (hZ : (flatR RI (List.replicate 19 0)).toArray = Z) : SmD sb ga cg b most p0 og vo out R w5 w5.heap.size A N n 0 er p (List.replicate 19 0) (w5.alloc (.cells Z 3)) := by
  have hN : Nw w5 (w5.alloc (.cells Z 3)) := (Fr.refl _ _).alloc _
  refine ⟨hp, d.nw hN, hN.any, ?_, Nat.le_refl _, hlo, by simp, hc⟩
  show (w5.heap.push _)[w5.heap.size]? = _
  simp [← hZ, toI]; rfl
theorem ord_val : ∀ I, I < 19 → (#[.int .i64 16, .int .i64 17, .int .i64 18, .int .i64 0, .int .i64 8, .int .i64 7, .int .i64 9, .int .i64 6, .int .i64 10, .int .i64 5, .int .i64 11, .int .i64 4, .int .i64 12, .int .i64 3, .int .i64 13, .int .i64 2, .int .i64 14, .int .i64 1, .int .i64 15] : Array Value)[I]? = some (.int .i64 (ordL.getD I 0 : Nat)) := by
  intro I hI
  rcases (show I = 0 ∨ I = 1 ∨ I = 2 ∨ I = 3 ∨ I = 4 ∨ I = 5 ∨ I = 6 ∨ I = 7 ∨ I = 8 ∨ I = 9 ∨ I = 10 ∨ I = 11 ∨ I = 12 ∨ I = 13 ∨ I = 14 ∨ I = 15 ∨ I = 16 ∨ I = 17 ∨ I = 18 by omega) with rfl | rfl | rfl | rfl | rfl | rfl | rfl | rfl | rfl | rfl | rfl | rfl | rfl | rfl | rfl | rfl | rfl | rfl | rfl <;> rfl
theorem setRow_hp (w : World) (g : Nat) (old cs : Array Value) (t : TypeId) (fr : Nat × Nat) (h : w.heap[g]? = some (.cells old t fr)) : (w.setRow g cs).heap[g]? = some (.cells cs t fr) := by
  simp [World.setRow, Array.getElem?_modify, h]
theorem SmD.end {R : Rz ((List Nat × List Nat) × Bt)} {gs A N n p0 : Nat} {sm : List Nat} {wr : World} (h : SmD sb ga cg b most p0 og vo out R w gs A N n n er p sm wr) : Cn b R er p (ownL A N sm) := by
  have := h.2.2.2.2.2.2.2
  rw [Nat.sub_self, smallR] at this
  exact this
/-- The order is laid. -/
def OrI (w3 : World) (OB : Nat) (wx : World) : Prop := (OB < wx.heap.size ∧ w3.heap.size ≤ OB) ∧ Nw w3 wx ∧ ∀ I, I < 19 → wx.cell? ⟨OB, I, none⟩ = some (.int .i64 (ordL.getD I 0 : Nat))
theorem ord_laid (w3 : World) (old : Array Value) : OrI w3 w3.heap.size ((w3.alloc (.cells old 91)).setRow w3.heap.size #[.int .i64 16, .int .i64 17, .int .i64 18, .int .i64 0, .int .i64 8, .int .i64 7, .int .i64 9, .int .i64 6, .int .i64 10, .int .i64 5, .int .i64 11, .int .i64 4, .int .i64 12, .int .i64 3, .int .i64 13, .int .i64 2, .int .i64 14, .int .i64 1, .int .i64 15]) := by
  have f2 : Fr (fun k => k = w3.heap.size) (w3.alloc (.cells old 91)) ((w3.alloc (.cells old 91)).setRow w3.heap.size #[.int .i64 16, .int .i64 17, .int .i64 18, .int .i64 0, .int .i64 8, .int .i64 7, .int .i64 9, .int .i64 6, .int .i64 10, .int .i64 5, .int .i64 11, .int .i64 4, .int .i64 12, .int .i64 3, .int .i64 13, .int .i64 2, .int .i64 14, .int .i64 1, .int .i64 15]) := (Fr.refl _ _).setRow _ _ (.inl rfl)
  have hN : Nw w3 (w3.alloc (.cells old 91)) := (Fr.refl _ _).alloc _
  refine ⟨⟨Nat.lt_of_lt_of_le (by simp) f2.size, Nat.le_refl _⟩, Fr.then hN f2 (fun i hi => .inr (by omega)), fun I hI => ?_⟩
  have hr : ((w3.alloc (.cells old 91)).setRow w3.heap.size #[.int .i64 16, .int .i64 17, .int .i64 18, .int .i64 0, .int .i64 8, .int .i64 7, .int .i64 9, .int .i64 6, .int .i64 10, .int .i64 5, .int .i64 11, .int .i64 4, .int .i64 12, .int .i64 3, .int .i64 13, .int .i64 2, .int .i64 14, .int .i64 1, .int .i64 15]).heap[w3.heap.size]? = some (.cells #[.int .i64 16, .int .i64 17, .int .i64 18, .int .i64 0, .int .i64 8, .int .i64 7, .int .i64 9, .int .i64 6, .int .i64 10, .int .i64 5, .int .i64 11, .int .i64 4, .int .i64 12, .int .i64 3, .int .i64 13, .int .i64 2, .int .i64 14, .int .i64 1, .int .i64 15] 91) := by
    have h0 : (w3.alloc (.cells old 91)).heap[w3.heap.size]? = some (.cells old 91) := new_heap _ _
    exact setRow_hp _ _ _ _ _ _ h0
  exact (row_cell hr I _ (ord_val I hI)).1
theorem ord_built0 : Tryd.prog.built 91 [(0, Value.int IntKind.i64 16), (1, Value.int IntKind.i64 17), (2, Value.int IntKind.i64 18), (3, Value.int IntKind.i64 0), (4, Value.int IntKind.i64 8), (5, Value.int IntKind.i64 7), (6, Value.int IntKind.i64 9), (7, Value.int IntKind.i64 6), (8, Value.int IntKind.i64 10), (9, Value.int IntKind.i64 5), (10, Value.int IntKind.i64 11), (11, Value.int IntKind.i64 4), (12, Value.int IntKind.i64 12), (13, Value.int IntKind.i64 3), (14, Value.int IntKind.i64 13), (15, Value.int IntKind.i64 2), (16, Value.int IntKind.i64 14), (17, Value.int IntKind.i64 1), (18, Value.int IntKind.i64 15)] = some #[.int .i64 16, .int .i64 17, .int .i64 18, .int .i64 0, .int .i64 8, .int .i64 7, .int .i64 9, .int .i64 6, .int .i64 10, .int .i64 5, .int .i64 11, .int .i64 4, .int .i64 12, .int .i64 3, .int .i64 13, .int .i64 2, .int .i64 14, .int .i64 1, .int .i64 15] := by kernel_rfl
theorem ord_built (a : Act) : Tryd.prog.built 91 ((#[(0, Operand.const (Value.int IntKind.i64 16)), (1, Operand.const (Value.int IntKind.i64 17)), (2, Operand.const (Value.int IntKind.i64 18)), (3, Operand.const (Value.int IntKind.i64 0)), (4, Operand.const (Value.int IntKind.i64 8)), (5, Operand.const (Value.int IntKind.i64 7)), (6, Operand.const (Value.int IntKind.i64 9)), (7, Operand.const (Value.int IntKind.i64 6)), (8, Operand.const (Value.int IntKind.i64 10)), (9, Operand.const (Value.int IntKind.i64 5)), (10, Operand.const (Value.int IntKind.i64 11)), (11, Operand.const (Value.int IntKind.i64 4)), (12, Operand.const (Value.int IntKind.i64 12)), (13, Operand.const (Value.int IntKind.i64 3)), (14, Operand.const (Value.int IntKind.i64 13)), (15, Operand.const (Value.int IntKind.i64 2)), (16, Operand.const (Value.int IntKind.i64 14)), (17, Operand.const (Value.int IntKind.i64 1)), (18, Operand.const (Value.int IntKind.i64 15))] : Array (Nat × Operand)).map fun (i, x) => (i, a.eval x)).toList = some #[.int .i64 16, .int .i64 17, .int .i64 18, .int .i64 0, .int .i64 8, .int .i64 7, .int .i64 9, .int .i64 6, .int .i64 10, .int .i64 5, .int .i64 11, .int .i64 4, .int .i64 12, .int .i64 3, .int .i64 13, .int .i64 2, .int .i64 14, .int .i64 1, .int .i64 15] := by
  have : ((#[(0, Operand.const (Value.int IntKind.i64 16)), (1, Operand.const (Value.int IntKind.i64 17)), (2, Operand.const (Value.int IntKind.i64 18)), (3, Operand.const (Value.int IntKind.i64 0)), (4, Operand.const (Value.int IntKind.i64 8)), (5, Operand.const (Value.int IntKind.i64 7)), (6, Operand.const (Value.int IntKind.i64 9)), (7, Operand.const (Value.int IntKind.i64 6)), (8, Operand.const (Value.int IntKind.i64 10)), (9, Operand.const (Value.int IntKind.i64 5)), (10, Operand.const (Value.int IntKind.i64 11)), (11, Operand.const (Value.int IntKind.i64 4)), (12, Operand.const (Value.int IntKind.i64 12)), (13, Operand.const (Value.int IntKind.i64 3)), (14, Operand.const (Value.int IntKind.i64 13)), (15, Operand.const (Value.int IntKind.i64 2)), (16, Operand.const (Value.int IntKind.i64 14)), (17, Operand.const (Value.int IntKind.i64 1)), (18, Operand.const (Value.int IntKind.i64 15))] : Array (Nat × Operand)).map fun (i, x) => (i, a.eval x)).toList = [(0, Value.int IntKind.i64 16), (1, Value.int IntKind.i64 17), (2, Value.int IntKind.i64 18), (3, Value.int IntKind.i64 0), (4, Value.int IntKind.i64 8), (5, Value.int IntKind.i64 7), (6, Value.int IntKind.i64 9), (7, Value.int IntKind.i64 6), (8, Value.int IntKind.i64 10), (9, Value.int IntKind.i64 5), (10, Value.int IntKind.i64 11), (11, Value.int IntKind.i64 4), (12, Value.int IntKind.i64 12), (13, Value.int IntKind.i64 3), (14, Value.int IntKind.i64 13), (15, Value.int IntKind.i64 2), (16, Value.int IntKind.i64 14), (17, Value.int IntKind.i64 1), (18, Value.int IntKind.i64 15)] := by simp [Act.eval]
  rw [this]
  exact ord_built0
theorem ord_size : (Tryd.prog.info? 91).map (·.size) = some 19 := by kernel_rfl
theorem ord_one : (#[.int .i64 16, .int .i64 17, .int .i64 18, .int .i64 0, .int .i64 8, .int .i64 7, .int .i64 9, .int .i64 6, .int .i64 10, .int .i64 5, .int .i64 11, .int .i64 4, .int .i64 12, .int .i64 3, .int .i64 13, .int .i64 2, .int .i64 14, .int .i64 1, .int .i64 15] : Array Value).all (·.oneCell') = true := by kernel_rfl
set_option maxHeartbeats 64000000 in
set_option maxRecDepth 100000 in
theorem hown_any (h : DsI sb ga cg b most p og vo out 0 w) (R : Rz ((List Nat × List Nat) × Bt)) (hR : R = ownR (bt b p)) :
    Calls Tryd.prog 40 #[.pointer (some ⟨sb, 0, none⟩)] w (OwnA sb ga cg b most p og vo out R w) := by
  obtain ⟨P, hP⟩ : ∃ P, P = OwnA sb ga cg b most p og vo out R w := ⟨_, rfl⟩
  rw [← hP]
  have HP : Hid (P = OwnA sb ga cg b most p og vo out R w) := hP
  have HX : Hid (∀ V p' er', p ≤ p' → er' ≠ 0 → R = .bad er' → DsI sb ga cg b most p' og vo out er' V → Fr (fun k => k = sb) w V → P (.returned (.tuple #[.slice none 0 0, .slice none 0 0])) V) := fun V p' er' h1 h2 h3 h4 h5 => by
    rw [hP]; exact ⟨none, 0, 0, none, 0, 0, rfl, p', er', h1, h4, h5, .inl ⟨h2, h3⟩⟩
  have HB : Hid (Calls Tryd.prog 36 #[.pointer (some ⟨sb, 0, none⟩), .int .i64 5] w fun e w1 => ∃ x1 A : Nat, e = .returned (.int .i64 x1) ∧ x1 < 32 ∧ (x1 : Int) + 257 = (A : Int) ∧ Hid (Calls Tryd.prog 36 #[.pointer (some ⟨sb, 0, none⟩), .int .i64 5] w1 fun e w2 => ∃ x2 D : Nat, e = .returned (.int .i64 x2) ∧ x2 < 32 ∧ (x2 : Int) + 1 = (D : Int) ∧ Hid (Calls Tryd.prog 36 #[.pointer (some ⟨sb, 0, none⟩), .int .i64 4] w2 fun e w3 => ∃ x3 n p3 er3 : Nat, e = .returned (.int .i64 x3) ∧ x3 < 16 ∧ (x3 : Int) + 4 = (n : Int) ∧ p ≤ p3 ∧ Hid (DsI sb ga cg b most p3 og vo out er3 w3 ∧ Fr (fun k => k = sb) w w3 ∧ Cn b R er3 p3 (if 286 < A ∨ 30 < D then failR 62 else bindR (smallR 0 n (List.replicate 19 0)) (ownL A (A + D))))))) := own3' h R hR
  have hmk := fun V => make_ints 19 (by omega) V
  generalize hZ : (flatR RI (List.replicate 19 0)).toArray = Z at hmk
  have HZ : Hid ((flatR RI (List.replicate 19 0)).toArray = Z) := hZ
  have hmk : ∀ V : World, (Instr.makeSlice 42 (.int .i64 19) (.int .i64 19)).run Tryd.prog V = .ok (.slice (some ⟨V.heap.size, 0, none⟩) 19 19) (V.alloc (.cells Z 3)) := hmk
  clear hP h hR hZ
  go_enter Tryd.func40, Tryd.ntmps40
  go_upto_region 2 with (first
    | (go_at_call 36; (with_reducible refine HB.out.mono ?_); rintro e w1 ⟨x1, A, rfl, hx1, hAi, H1⟩)
    | (go_at_call 36; (with_reducible refine H1.out.mono ?_); rintro e w2 ⟨x2, D, rfl, hx2, hDi, H2⟩)
    | (go_at_call 36; (with_reducible refine H2.out.mono ?_); rintro e w3 ⟨x3, n, p3, er3, rfl, hx3, hni, hp3, H3⟩))
  have hAl : 257 ≤ A ∧ A ≤ 288 := by omega
  have hDl : 1 ≤ D ∧ D ≤ 32 := by omega
  have hnl : 4 ≤ n ∧ n ≤ 19 := by omega
  obtain ⟨d3, fr3, cn3⟩ := H3.out
  obtain ⟨x4, y4⟩ := ds4 d3
  clear H1 H2 H3 HB hAi hDi hni hx1 hx2 hx3
  by_cases he3 : er3 = 0
  · subst he3
    have hR3 := cn3.good
    by_cases h286 : 286 < A
    · have z1 : (286 : Int) < (A : Int) := by omega
      have hE4 : (62 : Nat) ≠ 0 := by decide
      obtain ⟨k1, k2⟩ := d3.setE 62 62 rfl
      have HD4 : Hid (DsI sb ga cg b most p3 og vo out 62 (w3.setCell ⟨sb, 4, none⟩ (.int .i64 62)) ∧ Fr (fun k => k = sb) w (w3.setCell ⟨sb, 4, none⟩ (.int .i64 62)) ∧ R = .bad 62) := ⟨k1, fr3.trans k2, by rw [hR3, if_pos (by omega)]; rfl⟩
      clear d3 fr3 cn3 hR3 k1 k2
      go_upto_region 4 with fail
      generalize w3.setCell ⟨sb, 4, none⟩ (.int .i64 62) = V4 at *
      clear x4 y4
      go_cut [7] (fun o wx => ∃ OB, o = .pointer (some ⟨OB, 0, none⟩) ∧ Hid (OrI V4 OB wx))
      case first =>
        as_aux_lemma =>
          clear HD4 HX HP hmk
          obtain ⟨C, hC⟩ : ∃ C : Array Value, C = #[.int .i64 16, .int .i64 17, .int .i64 18, .int .i64 0, .int .i64 8, .int .i64 7, .int .i64 9, .int .i64 6, .int .i64 10, .int .i64 5, .int .i64 11, .int .i64 4, .int .i64 12, .int .i64 3, .int .i64 13, .int .i64 2, .int .i64 14, .int .i64 1, .int .i64 15] := ⟨_, rfl⟩
          have HO : Hid (∀ old, OrI V4 V4.heap.size ((V4.alloc (.cells old 91)).setRow V4.heap.size C)) := fun old => by rw [hC]; exact ord_laid V4 old
          have HBU : Hid (∀ a : Act, Tryd.prog.built 91 ((#[(0, Operand.const (Value.int IntKind.i64 16)), (1, Operand.const (Value.int IntKind.i64 17)), (2, Operand.const (Value.int IntKind.i64 18)), (3, Operand.const (Value.int IntKind.i64 0)), (4, Operand.const (Value.int IntKind.i64 8)), (5, Operand.const (Value.int IntKind.i64 7)), (6, Operand.const (Value.int IntKind.i64 9)), (7, Operand.const (Value.int IntKind.i64 6)), (8, Operand.const (Value.int IntKind.i64 10)), (9, Operand.const (Value.int IntKind.i64 5)), (10, Operand.const (Value.int IntKind.i64 11)), (11, Operand.const (Value.int IntKind.i64 4)), (12, Operand.const (Value.int IntKind.i64 12)), (13, Operand.const (Value.int IntKind.i64 3)), (14, Operand.const (Value.int IntKind.i64 13)), (15, Operand.const (Value.int IntKind.i64 2)), (16, Operand.const (Value.int IntKind.i64 14)), (17, Operand.const (Value.int IntKind.i64 1)), (18, Operand.const (Value.int IntKind.i64 15))] : Array (Nat × Operand)).map fun (i, x) => (i, a.eval x)).toList = some C) := fun a => by rw [hC]; exact ord_built a
          have HSI : Hid ((Tryd.prog.info? 91).map (·.size) = some C.size) := by show _ = _; rw [hC]; exact ord_size
          have HON : Hid (C.all (·.oneCell') = true) := by show _ = _; rw [hC]; exact ord_one
          have HCS : Hid (19 = C.size) := by show _ = _; rw [hC]; rfl
          clear hC
          go_wp2_with (first
            | (refine wpList_buildTo rfl 91 _ rfl _ rfl C (HBU.out _) ?_)
            | (refine wpList_store_row rfl 91 _ _ rfl V4.heap.size C (by simp [Act.eval]) (by simp [Act.eval]) 91 _ (new_heap _ _) HSI.out HCS.out HON.out ?_))
          go_meet
          exact ⟨_, rfl, HO.out _⟩
      case rest =>
      obtain ⟨OB, rfl, HOR⟩ := hcut
      generalize wc = W5 at *
      obtain ⟨d4, f4, c4⟩ := HD4.out
      obtain ⟨ob1, ob2, ob3⟩ := HOR.out
      have hlo4 := d4.lo
      have d5 := d4.nw ob2
      have hN6 : Nw W5 (W5.alloc (.cells Z 3)) := (Fr.refl _ _).alloc _
      have HS0 : Hid (BdI sb ga cg b most p3 og vo out 62 W5 W5.heap.size (W5.alloc (.cells Z 3))) := ⟨d5.nw hN6, hN6.any, Nat.le_refl _, d5.lo, List.replicate 19 0, (small_start W5 d5.lo d5 (p0 := 0) (R := .bad 62) (A := 0) (N := 0) (n := 0) (Nat.zero_le _) (.inl ⟨hE4, rfl⟩) Z HZ.out).2.2.2.1, by simp⟩
      have HF5 : Hid (Fr (fun k => k = sb) w W5) := f4.trans ob2.any
      have hx0 : (W5.alloc (.cells Z 3)).cell? ⟨sb, 4, none⟩ = some (.int .i64 (62 : Nat)) := Nw.cell ((Fr.refl _ _).alloc _) (ds4 d5).1
      have HOC : Hid (∀ V, Fr (fun k => k = sb) W5 V → ∀ I, I < 19 → V.cell? ⟨OB, I, none⟩ = some (.int .i64 (ordL.getD I 0 : Nat))) := fun V hV I hI => hV.cellv (ob3 I hI) (fun e => by have := hlo4.1; simp only at e; omega)
      have HOB : Hid (OB < W5.heap.size) := ob1.1
      have HBAD : Hid (R = .bad 62) := c4
      clear d4 f4 c4 ob1 ob2 ob3 hlo4 d5 HD4 HOR hN6
      go_upto_region 6 with fail
      generalize W5.alloc (.cells Z 3) = W6 at *
      obtain ⟨GS, hGS⟩ : ∃ GS, GS = W5.heap.size := ⟨_, rfl⟩
      rw [← hGS] at HS0 ⊢
      clear hGS hmk HZ
      go_wp2_with fail
      go_loopg [9] n (fun kx i wr => ∃ I : Nat, I ≤ n ∧ n - I ≤ kx ∧ i = .int .i64 I ∧ wr.cell? ⟨sb, 4, none⟩ = some (.int .i64 (62 : Nat)) ∧ Hid (BdI sb ga cg b most p3 og vo out 62 W5 GS wr))
      case atStart => exact ⟨0, by omega, by omega, rfl, hx0, HS0⟩
      case round =>
        clear HS0 hx0
        obtain ⟨I, hI, hkx, rfl, x4, HS⟩ := hrel
        by_cases hlt : I < n
        · have hz1 : (I : Int) < (n : Int) := by omega
          have hfw : Fr (fun k => k = sb) W5 wr := HS.out.2.1
          have hJl := ordD_lt I (by omega)
          have HBI : Hid (∀ V, Nw wr V → Calls Tryd.prog 36 #[.pointer (some ⟨sb, 0, none⟩), .int .i64 3] V fun e w1 => ∃ x : Nat, e = .returned (.int .i64 x) ∧ w1.cell? ⟨OB, I, none⟩ = some (.int .i64 (ordL.getD I 0 : Nat)) ∧ (∃ q : Nat, w1.cell? ⟨GS, ordL.getD I 0, none⟩ = some (.int .i64 q)) ∧ w1.frozen? ⟨GS, ordL.getD I 0, none⟩ = false ∧ (w1.setCell ⟨GS, ordL.getD I 0, none⟩ (.int .i64 x)).cell? ⟨OB, I, none⟩ = some (.int .i64 (ordL.getD I 0 : Nat)) ∧ (w1.setCell ⟨GS, ordL.getD I 0, none⟩ (.int .i64 x)).cell? ⟨sb, 4, none⟩ = some (.int .i64 (62 : Nat)) ∧ Hid (BdI sb ga cg b most p3 og vo out 62 W5 GS (w1.setCell ⟨GS, ordL.getD I 0, none⟩ (.int .i64 x)))) := fun V hV => by
            refine (HS.out.step (I := I) hE4 (by omega) V hV).mono ?_
            rintro e w1 ⟨x, rfl, f1, q1, q2, H1⟩
            exact ⟨x, rfl, HOC.out w1 (hfw.trans f1) I (by omega), q1, q2, ((Fr.refl (fun k => k = GS) w1).setCell _ _ (.inl rfl)).cellv (HOC.out w1 (hfw.trans f1) I (by omega)) (fun e => by have h8 := HS.out.2.2.1; have h9 := HOB.out; simp only at e; omega), (ds4 H1.out.1).1, H1⟩
          have ho := HOC.out wr hfw I (by omega)
          generalize ordL.getD I 0 = J at *
          have hJ0 : (0 : Int) ≤ (J : Int) := by omega
          have hJ19 : (J : Int) < 19 := by omega
          have hI0 : (0 : Int) ≤ (I : Int) := by omega
          have hI19 : (I : Int) < 19 := by omega
          clear HS HOC hfw HX HP HF5 HOB HBAD
          have ho' : wr.drew.cell? ⟨OB, I, none⟩ = some (.int .i64 (J : Nat)) := ho
          go_upto_region 9 with fail
          go_region_held3 (fun W => W.cell? ⟨OB, I, none⟩ = some (.int .i64 (J : Nat)))
            (first | assumption)
            (first | (go_at_call 36; with_reducible refine (HBI.out _ ?_).mono ?_; (first | exact (Fr.refl _ _).drew | exact Fr.refl _ _); rintro e w1 ⟨x, rfl, t1, ⟨q, t2⟩, t3, t4, t5, HN⟩))
          all_goals go_wp2_with fail
          all_goals go_roundg (n - (I + 1))
          all_goals (first
            | omega
            | exact ⟨I + 1, by omega, by omega, by first | rfl | (congr 1), t5, HN⟩)
        · obtain rfl : I = n := by omega
          have hz1 : ¬ (I : Int) < (I : Int) := by omega
          have HF : Hid (P (.returned (.tuple #[.slice none 0 0, .slice none 0 0])) wr) := HX.out wr p3 62 hp3 hE4 HBAD.out HS.out.1 (HF5.out.trans HS.out.2.1)
          have hz := ne0' hE4
          have hz2 := ne0 hE4
          clear HS HX HP HF5 HOC HOB HBAD
          go_wp2_with fail
          go_loopg [] 1 (fun kx wz => wz = wr)
          case atStart => rfl
          case round =>
            obtain rfl := hrel
            go_wp2_with fail
            exact HF.out
    · by_cases h30 : 30 < D
      · have z1 : ¬ (286 : Int) < (A : Int) := by omega
        have z2 : (30 : Int) < (D : Int) := by omega
        have hE4 : (62 : Nat) ≠ 0 := by decide
        obtain ⟨k1, k2⟩ := d3.setE 62 62 rfl
        have HD4 : Hid (DsI sb ga cg b most p3 og vo out 62 (w3.setCell ⟨sb, 4, none⟩ (.int .i64 62)) ∧ Fr (fun k => k = sb) w (w3.setCell ⟨sb, 4, none⟩ (.int .i64 62)) ∧ R = .bad 62) := ⟨k1, fr3.trans k2, by rw [hR3, if_pos (by omega)]; rfl⟩
        clear d3 fr3 cn3 hR3 k1 k2
        go_upto_region 4 with fail
        generalize w3.setCell ⟨sb, 4, none⟩ (.int .i64 62) = V4 at *
        clear x4 y4
        go_cut [7] (fun o wx => ∃ OB, o = .pointer (some ⟨OB, 0, none⟩) ∧ Hid (OrI V4 OB wx))
        case first =>
          as_aux_lemma =>
            clear HD4 HX HP hmk
            obtain ⟨C, hC⟩ : ∃ C : Array Value, C = #[.int .i64 16, .int .i64 17, .int .i64 18, .int .i64 0, .int .i64 8, .int .i64 7, .int .i64 9, .int .i64 6, .int .i64 10, .int .i64 5, .int .i64 11, .int .i64 4, .int .i64 12, .int .i64 3, .int .i64 13, .int .i64 2, .int .i64 14, .int .i64 1, .int .i64 15] := ⟨_, rfl⟩
            have HO : Hid (∀ old, OrI V4 V4.heap.size ((V4.alloc (.cells old 91)).setRow V4.heap.size C)) := fun old => by rw [hC]; exact ord_laid V4 old
            have HBU : Hid (∀ a : Act, Tryd.prog.built 91 ((#[(0, Operand.const (Value.int IntKind.i64 16)), (1, Operand.const (Value.int IntKind.i64 17)), (2, Operand.const (Value.int IntKind.i64 18)), (3, Operand.const (Value.int IntKind.i64 0)), (4, Operand.const (Value.int IntKind.i64 8)), (5, Operand.const (Value.int IntKind.i64 7)), (6, Operand.const (Value.int IntKind.i64 9)), (7, Operand.const (Value.int IntKind.i64 6)), (8, Operand.const (Value.int IntKind.i64 10)), (9, Operand.const (Value.int IntKind.i64 5)), (10, Operand.const (Value.int IntKind.i64 11)), (11, Operand.const (Value.int IntKind.i64 4)), (12, Operand.const (Value.int IntKind.i64 12)), (13, Operand.const (Value.int IntKind.i64 3)), (14, Operand.const (Value.int IntKind.i64 13)), (15, Operand.const (Value.int IntKind.i64 2)), (16, Operand.const (Value.int IntKind.i64 14)), (17, Operand.const (Value.int IntKind.i64 1)), (18, Operand.const (Value.int IntKind.i64 15))] : Array (Nat × Operand)).map fun (i, x) => (i, a.eval x)).toList = some C) := fun a => by rw [hC]; exact ord_built a
            have HSI : Hid ((Tryd.prog.info? 91).map (·.size) = some C.size) := by show _ = _; rw [hC]; exact ord_size
            have HON : Hid (C.all (·.oneCell') = true) := by show _ = _; rw [hC]; exact ord_one
            have HCS : Hid (19 = C.size) := by show _ = _; rw [hC]; rfl
            clear hC
            go_wp2_with (first
              | (refine wpList_buildTo rfl 91 _ rfl _ rfl C (HBU.out _) ?_)
              | (refine wpList_store_row rfl 91 _ _ rfl V4.heap.size C (by simp [Act.eval]) (by simp [Act.eval]) 91 _ (new_heap _ _) HSI.out HCS.out HON.out ?_))
            go_meet
            exact ⟨_, rfl, HO.out _⟩
        case rest =>
        obtain ⟨OB, rfl, HOR⟩ := hcut
        generalize wc = W5 at *
        obtain ⟨d4, f4, c4⟩ := HD4.out
        obtain ⟨ob1, ob2, ob3⟩ := HOR.out
        have hlo4 := d4.lo
        have d5 := d4.nw ob2
        have hN6 : Nw W5 (W5.alloc (.cells Z 3)) := (Fr.refl _ _).alloc _
        have HS0 : Hid (BdI sb ga cg b most p3 og vo out 62 W5 W5.heap.size (W5.alloc (.cells Z 3))) := ⟨d5.nw hN6, hN6.any, Nat.le_refl _, d5.lo, List.replicate 19 0, (small_start W5 d5.lo d5 (p0 := 0) (R := .bad 62) (A := 0) (N := 0) (n := 0) (Nat.zero_le _) (.inl ⟨hE4, rfl⟩) Z HZ.out).2.2.2.1, by simp⟩
        have HF5 : Hid (Fr (fun k => k = sb) w W5) := f4.trans ob2.any
        have hx0 : (W5.alloc (.cells Z 3)).cell? ⟨sb, 4, none⟩ = some (.int .i64 (62 : Nat)) := Nw.cell ((Fr.refl _ _).alloc _) (ds4 d5).1
        have HOC : Hid (∀ V, Fr (fun k => k = sb) W5 V → ∀ I, I < 19 → V.cell? ⟨OB, I, none⟩ = some (.int .i64 (ordL.getD I 0 : Nat))) := fun V hV I hI => hV.cellv (ob3 I hI) (fun e => by have := hlo4.1; simp only at e; omega)
        have HOB : Hid (OB < W5.heap.size) := ob1.1
        have HBAD : Hid (R = .bad 62) := c4
        clear d4 f4 c4 ob1 ob2 ob3 hlo4 d5 HD4 HOR hN6
        go_upto_region 6 with fail
        generalize W5.alloc (.cells Z 3) = W6 at *
        obtain ⟨GS, hGS⟩ : ∃ GS, GS = W5.heap.size := ⟨_, rfl⟩
        rw [← hGS] at HS0 ⊢
        clear hGS hmk HZ
        go_wp2_with fail
        go_loopg [9] n (fun kx i wr => ∃ I : Nat, I ≤ n ∧ n - I ≤ kx ∧ i = .int .i64 I ∧ wr.cell? ⟨sb, 4, none⟩ = some (.int .i64 (62 : Nat)) ∧ Hid (BdI sb ga cg b most p3 og vo out 62 W5 GS wr))
        case atStart => exact ⟨0, by omega, by omega, rfl, hx0, HS0⟩
        case round =>
          clear HS0 hx0
          obtain ⟨I, hI, hkx, rfl, x4, HS⟩ := hrel
          by_cases hlt : I < n
          · have hz1 : (I : Int) < (n : Int) := by omega
            have hfw : Fr (fun k => k = sb) W5 wr := HS.out.2.1
            have hJl := ordD_lt I (by omega)
            have HBI : Hid (∀ V, Nw wr V → Calls Tryd.prog 36 #[.pointer (some ⟨sb, 0, none⟩), .int .i64 3] V fun e w1 => ∃ x : Nat, e = .returned (.int .i64 x) ∧ w1.cell? ⟨OB, I, none⟩ = some (.int .i64 (ordL.getD I 0 : Nat)) ∧ (∃ q : Nat, w1.cell? ⟨GS, ordL.getD I 0, none⟩ = some (.int .i64 q)) ∧ w1.frozen? ⟨GS, ordL.getD I 0, none⟩ = false ∧ (w1.setCell ⟨GS, ordL.getD I 0, none⟩ (.int .i64 x)).cell? ⟨OB, I, none⟩ = some (.int .i64 (ordL.getD I 0 : Nat)) ∧ (w1.setCell ⟨GS, ordL.getD I 0, none⟩ (.int .i64 x)).cell? ⟨sb, 4, none⟩ = some (.int .i64 (62 : Nat)) ∧ Hid (BdI sb ga cg b most p3 og vo out 62 W5 GS (w1.setCell ⟨GS, ordL.getD I 0, none⟩ (.int .i64 x)))) := fun V hV => by
              refine (HS.out.step (I := I) hE4 (by omega) V hV).mono ?_
              rintro e w1 ⟨x, rfl, f1, q1, q2, H1⟩
              exact ⟨x, rfl, HOC.out w1 (hfw.trans f1) I (by omega), q1, q2, ((Fr.refl (fun k => k = GS) w1).setCell _ _ (.inl rfl)).cellv (HOC.out w1 (hfw.trans f1) I (by omega)) (fun e => by have h8 := HS.out.2.2.1; have h9 := HOB.out; simp only at e; omega), (ds4 H1.out.1).1, H1⟩
            have ho := HOC.out wr hfw I (by omega)
            generalize ordL.getD I 0 = J at *
            have hJ0 : (0 : Int) ≤ (J : Int) := by omega
            have hJ19 : (J : Int) < 19 := by omega
            have hI0 : (0 : Int) ≤ (I : Int) := by omega
            have hI19 : (I : Int) < 19 := by omega
            clear HS HOC hfw HX HP HF5 HOB HBAD
            have ho' : wr.drew.cell? ⟨OB, I, none⟩ = some (.int .i64 (J : Nat)) := ho
            go_upto_region 9 with fail
            go_region_held3 (fun W => W.cell? ⟨OB, I, none⟩ = some (.int .i64 (J : Nat)))
              (first | assumption)
              (first | (go_at_call 36; with_reducible refine (HBI.out _ ?_).mono ?_; (first | exact (Fr.refl _ _).drew | exact Fr.refl _ _); rintro e w1 ⟨x, rfl, t1, ⟨q, t2⟩, t3, t4, t5, HN⟩))
            all_goals go_wp2_with fail
            all_goals go_roundg (n - (I + 1))
            all_goals (first
              | omega
              | exact ⟨I + 1, by omega, by omega, by first | rfl | (congr 1), t5, HN⟩)
          · obtain rfl : I = n := by omega
            have hz1 : ¬ (I : Int) < (I : Int) := by omega
            have HF : Hid (P (.returned (.tuple #[.slice none 0 0, .slice none 0 0])) wr) := HX.out wr p3 62 hp3 hE4 HBAD.out HS.out.1 (HF5.out.trans HS.out.2.1)
            have hz := ne0' hE4
            have hz2 := ne0 hE4
            clear HS HX HP HF5 HOC HOB HBAD
            go_wp2_with fail
            go_loopg [] 1 (fun kx wz => wz = wr)
            case atStart => rfl
            case round =>
              obtain rfl := hrel
              go_wp2_with fail
              exact HF.out
      · rw [if_neg (by omega)] at hR3
        have z1 : ¬ (286 : Int) < (A : Int) := by omega
        have z2 : ¬ (30 : Int) < (D : Int) := by omega
        have HD4 : Hid (DsI sb ga cg b most p3 og vo out 0 w3 ∧ Fr (fun k => k = sb) w w3 ∧ Cn b R 0 p3 (bindR (smallR 0 n (List.replicate 19 0)) (ownL A (A + D)))) := ⟨d3, fr3, .inr ⟨rfl, hR3⟩⟩
        clear d3 fr3 cn3 hR3
        go_upto_region 4 with fail
        generalize w3 = V4 at *
        clear x4 y4
        go_cut [7] (fun o wx => ∃ OB, o = .pointer (some ⟨OB, 0, none⟩) ∧ Hid (OrI V4 OB wx))
        case first =>
          as_aux_lemma =>
            clear HD4 HX HP hmk
            obtain ⟨C, hC⟩ : ∃ C : Array Value, C = #[.int .i64 16, .int .i64 17, .int .i64 18, .int .i64 0, .int .i64 8, .int .i64 7, .int .i64 9, .int .i64 6, .int .i64 10, .int .i64 5, .int .i64 11, .int .i64 4, .int .i64 12, .int .i64 3, .int .i64 13, .int .i64 2, .int .i64 14, .int .i64 1, .int .i64 15] := ⟨_, rfl⟩
            have HO : Hid (∀ old, OrI V4 V4.heap.size ((V4.alloc (.cells old 91)).setRow V4.heap.size C)) := fun old => by rw [hC]; exact ord_laid V4 old
            have HBU : Hid (∀ a : Act, Tryd.prog.built 91 ((#[(0, Operand.const (Value.int IntKind.i64 16)), (1, Operand.const (Value.int IntKind.i64 17)), (2, Operand.const (Value.int IntKind.i64 18)), (3, Operand.const (Value.int IntKind.i64 0)), (4, Operand.const (Value.int IntKind.i64 8)), (5, Operand.const (Value.int IntKind.i64 7)), (6, Operand.const (Value.int IntKind.i64 9)), (7, Operand.const (Value.int IntKind.i64 6)), (8, Operand.const (Value.int IntKind.i64 10)), (9, Operand.const (Value.int IntKind.i64 5)), (10, Operand.const (Value.int IntKind.i64 11)), (11, Operand.const (Value.int IntKind.i64 4)), (12, Operand.const (Value.int IntKind.i64 12)), (13, Operand.const (Value.int IntKind.i64 3)), (14, Operand.const (Value.int IntKind.i64 13)), (15, Operand.const (Value.int IntKind.i64 2)), (16, Operand.const (Value.int IntKind.i64 14)), (17, Operand.const (Value.int IntKind.i64 1)), (18, Operand.const (Value.int IntKind.i64 15))] : Array (Nat × Operand)).map fun (i, x) => (i, a.eval x)).toList = some C) := fun a => by rw [hC]; exact ord_built a
            have HSI : Hid ((Tryd.prog.info? 91).map (·.size) = some C.size) := by show _ = _; rw [hC]; exact ord_size
            have HON : Hid (C.all (·.oneCell') = true) := by show _ = _; rw [hC]; exact ord_one
            have HCS : Hid (19 = C.size) := by show _ = _; rw [hC]; rfl
            clear hC
            go_wp2_with (first
              | (refine wpList_buildTo rfl 91 _ rfl _ rfl C (HBU.out _) ?_)
              | (refine wpList_store_row rfl 91 _ _ rfl V4.heap.size C (by simp [Act.eval]) (by simp [Act.eval]) 91 _ (new_heap _ _) HSI.out HCS.out HON.out ?_))
            go_meet
            exact ⟨_, rfl, HO.out _⟩
        case rest =>
        obtain ⟨OB, rfl, HOR⟩ := hcut
        generalize wc = W5 at *
        obtain ⟨d4, f4, c4⟩ := HD4.out
        obtain ⟨ob1, ob2, ob3⟩ := HOR.out
        have hlo4 := d4.lo
        have d5 := d4.nw ob2
        have HS0 : Hid (SmD sb ga cg b most p og vo out R W5 W5.heap.size A (A + D) n 0 0 p3 (List.replicate 19 0) (W5.alloc (.cells Z 3))) := small_start W5 d5.lo d5 hp3 c4 Z HZ.out
        have HF5 : Hid (Fr (fun k => k = sb) w W5) := f4.trans ob2.any
        have hx0 : (W5.alloc (.cells Z 3)).cell? ⟨sb, 4, none⟩ = some (.int .i64 (0 : Nat)) := Nw.cell ((Fr.refl _ _).alloc _) (ds4 d5).1
        have HOC : Hid (∀ V, Fr (fun k => k = sb) W5 V → ∀ I, I < 19 → V.cell? ⟨OB, I, none⟩ = some (.int .i64 (ordL.getD I 0 : Nat))) := fun V hV I hI => hV.cellv (ob3 I hI) (fun e => by have := hlo4.1; simp only at e; omega)
        have HOB : Hid (OB < W5.heap.size) := ob1.1
        clear d4 f4 c4 ob1 ob2 ob3 hlo4 d5 HD4 HOR
        go_upto_region 6 with fail
        generalize W5.alloc (.cells Z 3) = W6 at *
        have hGB : W5.heap.size = W5.heap.size := rfl
        obtain ⟨GS, hGS⟩ : ∃ GS, GS = W5.heap.size := ⟨_, rfl⟩
        rw [← hGS] at HS0 ⊢
        clear hGS hGB hmk HZ
        go_wp2_with fail
        go_loopg [9] n (fun kx i wr => ∃ (I er' p' : Nat) (sm : List Nat), I ≤ n ∧ n - I ≤ kx ∧ i = .int .i64 I ∧ wr.cell? ⟨sb, 4, none⟩ = some (.int .i64 (er' : Nat)) ∧ Hid (SmD sb ga cg b most p og vo out R W5 GS A (A + D) n I er' p' sm wr))
        case atStart => exact ⟨0, 0, p3, _, by omega, by omega, rfl, hx0, HS0⟩
        case round =>
          clear HS0 hx0
          obtain ⟨I, er', p', sm, hI, hkx, rfl, x4, HS⟩ := hrel
          by_cases hlt : I < n
          · have hz1 : (I : Int) < (n : Int) := by omega
            have hfw : Fr (fun k => k = sb) W5 wr := HS.out.2.2.1
            have hJl := ordD_lt I (by omega)
            have HBI : Hid (∀ V, Nw wr V → Calls Tryd.prog 36 #[.pointer (some ⟨sb, 0, none⟩), .int .i64 3] V fun e w1 => ∃ x : Nat, e = .returned (.int .i64 x) ∧ w1.cell? ⟨OB, I, none⟩ = some (.int .i64 (ordL.getD I 0 : Nat)) ∧ (∃ q : Nat, w1.cell? ⟨GS, ordL.getD I 0, none⟩ = some (.int .i64 q)) ∧ w1.frozen? ⟨GS, ordL.getD I 0, none⟩ = false ∧ (w1.setCell ⟨GS, ordL.getD I 0, none⟩ (.int .i64 x)).cell? ⟨OB, I, none⟩ = some (.int .i64 (ordL.getD I 0 : Nat)) ∧ Hid (∃ er' p' sm', (w1.setCell ⟨GS, ordL.getD I 0, none⟩ (.int .i64 x)).cell? ⟨sb, 4, none⟩ = some (.int .i64 (er' : Nat)) ∧ SmD sb ga cg b most p og vo out R W5 GS A (A + D) n (I + 1) er' p' sm' (w1.setCell ⟨GS, ordL.getD I 0, none⟩ (.int .i64 x)))) := fun V hV => by
              refine (HS.out.step hlt (by omega) V hV).mono ?_
              rintro e w1 ⟨x, rfl, hx, f1, q1, q2, H1⟩
              obtain ⟨er', p', h1⟩ := H1.out
              exact ⟨x, rfl, HOC.out w1 (hfw.trans f1) I (by omega), q1, q2, ((Fr.refl (fun k => k = GS) w1).setCell _ _ (.inl rfl)).cellv (HOC.out w1 (hfw.trans f1) I (by omega)) (fun e => by have h8 := HS.out.2.2.2.2.1; have h9 := HOB.out; simp only at e; omega), er', p', _, (ds4 h1.2.1).1, h1⟩
            have ho := HOC.out wr hfw I (by omega)
            generalize ordL.getD I 0 = J at *
            have hJ0 : (0 : Int) ≤ (J : Int) := by omega
            have hJ19 : (J : Int) < 19 := by omega
            have hI0 : (0 : Int) ≤ (I : Int) := by omega
            have hI19 : (I : Int) < 19 := by omega
            clear HS HOC hfw HX HP HF5 HOB
            have ho' : wr.drew.cell? ⟨OB, I, none⟩ = some (.int .i64 (J : Nat)) := ho
            go_upto_region 9 with fail
            go_region_held3 (fun W => W.cell? ⟨OB, I, none⟩ = some (.int .i64 (J : Nat)))
              (first | assumption)
              (first | (go_at_call 36; with_reducible refine (HBI.out _ ?_).mono ?_; (first | exact (Fr.refl _ _).drew | exact Fr.refl _ _); rintro e w1 ⟨x, rfl, t1, ⟨q, t2⟩, t3, t4, HN⟩))
            all_goals go_wp2_with fail
            all_goals go_roundg (n - (I + 1))
            all_goals (first
              | omega
              | (obtain ⟨er2, p2, sm2, j1, j2⟩ := HN.out; exact ⟨I + 1, er2, p2, sm2, by omega, by omega, by first | rfl | (congr 1), j1, j2⟩))
          · obtain rfl : I = n := by omega
            have hz1 : ¬ (I : Int) < (I : Int) := by omega
            have hcn := HS.out.end
            have hd := HS.out.2.1
            have hfr : Fr (fun k => k = sb) w wr := HF5.out.trans HS.out.2.2.1
            have hpp : p ≤ p' := HS.out.1
            clear HOC HOB
            by_cases hE : er' ≠ 0
            · have HF : Hid (P (.returned (.tuple #[.slice none 0 0, .slice none 0 0])) wr) := HX.out wr p' er' hpp hE (hcn.bad hE) hd hfr
              have hz := ne0' hE
              have hz2 := ne0 hE
              clear HS hcn hd hfr HX HP HF5
              go_wp2_with fail
              go_loopg [] 1 (fun kx wz => wz = wr)
              case atStart => rfl
              case round =>
                obtain rfl := hrel
                go_wp2_with fail
                exact HF.out
            · obtain rfl : er' = 0 := by omega
              have hR4 := hcn.good
              have hsw := HS.out.2.2.2.1
              have h19 : sm.length = 19 := HS.out.2.2.2.2.2.2.1
              have hGS : W5.heap.size ≤ GS := HS.out.2.2.2.2.1
              have hsl := swr_slice hsw h19
              have HG : Hid (Calls Tryd.prog 50 #[.slice (some ⟨GS, 0, none⟩) 19 19, .bool false] wr fun e w' => e = .returned (.bool (goodD sm false)) ∧ wr = w') := ggood_any wr _ sm (hsl.mono (fun _ h => h.elim)) (by omega) false
              have y4 := (ds4 hd).2
              by_cases hg : goodD sm false = true
              · obtain ⟨hk1, hk2⟩ := (goodD_small sm).1 hg
                rw [ownL, if_neg (by simp [hk1, hk2])] at hR4
                rw [hg] at HG
                generalize hN : A + D = N at *
                have hNi : (A : Int) + (D : Int) = (N : Int) := by omega
                have hNl : N ≤ 320 ∧ 258 ≤ N ∧ A < N := by omega
                have hgl : GS < wr.heap.size := by
                  have := (Array.getElem?_eq_some_iff.1 hsw).1
                  exact this
                have hgs : GS ≠ sb := by have := hd.lt; intro e; have h1 := HS.out.2.2.2.2.2.1.1; omega
                have HSM : Hid (∀ V, Fr (fun k => k = sb) wr V → SlR RI (fun k => V.heap.size ≤ k) (.slice (some ⟨GS, 0, none⟩) 19 19) (toI sm) V) := fun V hV => ((hsl.mono (Y := fun k => wr.heap.size ≤ k ∨ k = sb) (fun g hg e => by subst e; rcases hg with hg | hg <;> omega)).kept hV (fun g hg => .inr hg)).mono (fun g hg => .inl (Nat.le_trans hV.size hg))
                have HK : Hid (Cod sm ∧ sm.length = 19) := ⟨hk1, h19⟩
                have HFR : Hid (Fr (fun k => k = sb) w wr) := hfr
                have HL0 : Hid (LnD sb ga cg b most p og vo out R wr sm A N (N + 1) 0 p' [] none 0 0 wr) := ⟨hpp, ⟨hd, Fr.refl _ _, hd.lo, rfl, none, ⟨rfl, rfl⟩, fun g h => by cases h⟩, fun _ => ⟨Nat.zero_le _, fun i => by simp, by simp⟩, N, fun _ => by simp, .inr ⟨rfl, hR4⟩⟩
                clear HS hcn hd hfr hR4 hsw h19 hsl hk1 hk2 hg hN hgl hgs HF5 hGS
                go_upto_region 12 with (first | (go_at_call 50; (with_reducible refine HG.out.mono ?_); rintro e w' ⟨rfl, rfl⟩))
                generalize wr = w4 at *
                clear HG
                go_wp2_with fail
                go_loopg [10] (N + 1) (fun kx v wz => ∃ (er p2 m : Nat) (l : List Nat) (a : Option Addr) (c : Nat), v = .slice a m c ∧ m ≤ 600 ∧ wz.cell? ⟨sb, 4, none⟩ = some (.int .i64 (er : Nat)) ∧ Hid (LnD sb ga cg b most p og vo out R w4 sm A N kx er p2 l a m c wz))
                case atStart => exact ⟨0, p', 0, [], none, 0, rfl, by omega, x4, HL0⟩
                case round =>
                  clear HL0 x4 y4
                  obtain ⟨er, p2, m, l, a, c, rfl, hm6, x4, HL⟩ := hrel
                  obtain ⟨l1, ⟨l2, l3, l4, l5, ol, l6, l7⟩, l8, k, l9, l10⟩ := HL.out
                  by_cases hE : er ≠ 0
                  · have HF : Hid (P (.returned (.tuple #[.slice none 0 0, .slice none 0 0])) wr) := HX.out wr p2 er l1 hE (l10.bad hE) l2 (HFR.out.trans l3)
                    have hz := ne0' hE
                    have hz2 := ne0 hE
                    clear HL l2 l3 l4 l5 l6 l7 l8 l9 l10 HX HP HFR HSM HK
                    go_wp2_with fail
                    exact HF.out
                  · obtain rfl : er = 0 := by omega
                    obtain ⟨m1, m2, m3⟩ := l8 rfl
                    have l9' := l9 rfl
                    have y4 := (ds4 l2).2
                    by_cases hlt2 : m < N
                    · have hmz : (m : Int) < (N : Int) := by omega
                      obtain ⟨k', rfl⟩ : ∃ k', k = k' + 1 := ⟨k - 1, by omega⟩
                      have hR5 := l10.good
                      rw [lens_sym (by omega)] at hR5
                      have HSY : Hid (Calls Tryd.prog 48 #[.pointer (some ⟨sb, 0, none⟩), .slice (some ⟨GS, 0, none⟩) 19 19] wr (SyA sb ga cg b most p2 og vo out wr sm R (fun y => if y = 16 ∧ l.length = 0 then failR 62 else bindR (lnB sm N k' l y) (ownK A)))) := hsymbol_any l2 _ (HSM.out wr l3) (fun _ => HK.out.1) R _ (.inr ⟨rfl, hR5⟩)
                      have HLI : Hid (LiD sb ga cg b most p2 og vo out 0 w4 l a m c wr ∧ p ≤ p2 ∧ (∀ i, l.getD i 0 ≤ 15) ∧ N - l.length + 1 ≤ gk ∧ N - l.length ≤ k' + 1 ∧ l.length = m) := ⟨⟨l2, l3, l4, l5, ol, l6, l7⟩, l1, m2, m3, by omega, l5.symm⟩
                      clear HL l2 l3 l4 l5 l6 l7 l8 l9 l10 hR5 l1 m1 m2 m3 l9' HX HP HFR HSM
                      go_upto_region 15 with (first | (go_at_call 48; (with_reducible refine HSY.out.mono ?_); unfold SyA; rintro e w1 ⟨y, p3', er1, rfl, hy, hp3', H1⟩))
                      obtain ⟨d1, fr1, cn1, hlt1, hzr1⟩ := H1.out
                      have HL1 : Hid (LiD sb ga cg b most p3' og vo out er1 w4 l a m c w1) := HLI.out.1.go d1 fr1
                      obtain ⟨x41, y41⟩ := ds4 d1
                      have hml : Hid (l.length = m) := HLI.out.2.2.2.2.2
                      -- what is asked at first
                      have HA1 : Hid (∀ V er1', ((er1' = er1 ∧ ¬ (er1 = 0 ∧ y = 16 ∧ m = 0) ∧ V = w1) ∨ (er1' = 62 ∧ (er1 = 0 ∧ y = 16 ∧ m = 0) ∧ V = w1.setCell ⟨sb, 4, none⟩ (.int .i64 62))) → LiD sb ga cg b most p3' og vo out er1' w4 l a m c V ∧ V.cell? ⟨sb, 4, none⟩ = some (.int .i64 (er1' : Nat)) ∧ Cn b R er1' p3' (bindR (lnB sm N k' l y) (ownK A)) ∧ (er1' = 0 → y < 19 ∧ (y = 16 → 0 < m))) := by
                        intro V er1' hh
                        rcases hh with ⟨rfl, hn, rfl⟩ | ⟨rfl, ⟨rfl, rfl, rfl⟩, rfl⟩
                        · refine ⟨HL1.out, (ds4 d1).1, ?_, fun e => ⟨by have := (hlt1 e).1; rw [HK.out.2] at this; exact this, fun e2 => by omega⟩⟩
                          by_cases h0 : er1' = 0
                          · subst h0
                            have := cn1.good
                            rw [if_neg (by rw [hml.out]; omega)] at this
                            exact .inr ⟨rfl, this⟩
                          · exact .inl ⟨h0, cn1.bad h0⟩
                        · obtain ⟨k1, k2⟩ := d1.setE 62 62 rfl
                          refine ⟨HL1.out.go k1 k2, (ds4 k1).1, .inl ⟨by decide, ?_⟩, fun e => by omega⟩
                          have := cn1.good
                          rw [if_pos ⟨rfl, by rw [hml.out]⟩] at this
                          exact this
                      clear cn1 d1 fr1 H1 HSY HL1
                      have hmi0 : (m : Int) = 0 ↔ m = 0 := by omega
                      go_cut [98] from 85 to 98 (fun v wx => ∃ B : Bool, v = .bool B ∧ Hid (B = true ↔ (er1 = 0 ∧ y = 16 ∧ m = 0)) ∧ wx = w1)
                      case first =>
                        clear HA1 HLI HK hmk hmi0
                        by_cases e1 : er1 = 0
                        · subst e1
                          by_cases e2 : y = 16
                          · subst e2
                            by_cases e3 : m = 0
                            · subst e3
                              go_wp2_with fail
                              go_meet
                              exact ⟨true, rfl, ⟨fun _ => (by simp), fun _ => rfl⟩, rfl⟩
                            · have e3' := ne0' e3
                              have HB : Hid (m ≠ 0) := e3
                              clear e3
                              go_wp2_with fail
                              go_meet
                              exact ⟨false, rfl, ⟨fun h => (by cases h), fun h => absurd h.2.2 HB.out⟩, rfl⟩
                          · have e2' : ((y : Int) == 16) = false := by simp only [beq_eq_false_iff_ne, ne_eq]; omega
                            have HB : Hid (y ≠ 16) := e2
                            clear e2
                            go_wp2_with fail
                            go_meet
                            exact ⟨false, rfl, ⟨fun h => (by cases h), fun h => absurd h.2.1 HB.out⟩, rfl⟩
                        · have e1' := ne0' e1
                          have HB : Hid (er1 ≠ 0) := e1
                          clear e1
                          go_wp2_with fail
                          go_meet
                          exact ⟨false, rfl, ⟨fun h => (by cases h), fun h => absurd h.1 HB.out⟩, rfl⟩
                      case rest =>
                      obtain ⟨B, rfl, HBB, rfl⟩ := hcut
                      go_upto_if 98 with fail
                      go_cut [98] from 98 to 101 (fun v wx => ∃ er1' : Nat, wx.cell? ⟨sb, 4, none⟩ = some (.int .i64 (er1' : Nat)) ∧ Hid (LiD sb ga cg b most p3' og vo out er1' w4 l a m c wx ∧ Cn b R er1' p3' (bindR (lnB sm N k' l y) (ownK A)) ∧ (er1' = 0 → y < 19 ∧ (y = 16 → 0 < m))))
                      case first =>
                        cases B with
                        | true =>
                          have hb := HBB.out.1 rfl
                          obtain ⟨j1, j2, j3, j4⟩ := HA1.out _ 62 (.inr ⟨rfl, hb, rfl⟩)
                          have J : Hid (LiD sb ga cg b most p3' og vo out 62 w4 l a m c (wc.setCell ⟨sb, 4, none⟩ (.int .i64 62)) ∧ Cn b R 62 p3' (bindR (lnB sm N k' l y) (ownK A)) ∧ (62 = 0 → y < 19 ∧ (y = 16 → 0 < m))) := ⟨j1, j3, j4⟩
                          clear HA1 HBB j1 j3 j4 hb HLI HK hmk
                          go_wp2_with fail
                          go_meet
                          exact ⟨62, j2, J⟩
                        | false =>
                          obtain ⟨j1, j2, j3, j4⟩ := HA1.out wc er1 (.inl ⟨rfl, fun h => (by have := HBB.out.2 h; cases this), rfl⟩)
                          have J : Hid (LiD sb ga cg b most p3' og vo out er1 w4 l a m c wc ∧ Cn b R er1 p3' (bindR (lnB sm N k' l y) (ownK A)) ∧ (er1 = 0 → y < 19 ∧ (y = 16 → 0 < m))) := ⟨j1, j3, j4⟩
                          clear HA1 HBB j1 j3 j4 HLI HK hmk
                          go_wp2_with fail
                          go_meet
                          exact ⟨er1, j2, J⟩
                      case rest =>
                      obtain ⟨er2, x42, H2⟩ := hcut
                      generalize wc = w5 at *
                      clear HA1 HBB
                      go_upto_block 4 with fail
                      go_cut [12, 13] from 103 to 127 (fun t x wx => ∃ T X er3 p4 : Nat, t = .int .i64 (T : Nat) ∧ x = .int .i64 (X : Nat) ∧ T ≤ 138 ∧ X ≤ 320 ∧ wx.cell? ⟨sb, 4, none⟩ = some (.int .i64 (er3 : Nat)) ∧ Hid (TmD sb ga cg b most p og vo out R w4 sm A N k' er3 p4 l a m c T X wx))
                      case first =>
                        obtain ⟨g1, g2, g3⟩ := H2.out
                        obtain ⟨i1, i2, i3, i4, i5, i6⟩ := HLI.out
                        have hpp4 : p ≤ p3' := by omega
                        by_cases e16 : y = 16
                        · subst e16
                          rw [lnB, if_pos rfl, bindR_assoc] at g2
                          have HBT : Hid (Calls Tryd.prog 36 #[.pointer (some ⟨sb, 0, none⟩), .int .i64 2] w5 fun e w6 => ∃ v T er3 : Nat, e = .returned (.int .i64 v) ∧ (v : Int) + 3 = (T : Int) ∧ T ≤ 138 ∧ w6.cell? ⟨sb, 4, none⟩ = some (.int .i64 (er3 : Nat)) ∧ (0 < m → ∃ g, a = some ⟨g, 0, none⟩ ∧ w6.cell? ⟨g, m - 1, none⟩ = some (.int .i64 (l.getD (m - 1) 0 : Nat))) ∧ Hid (∃ p4, TmD sb ga cg b most p og vo out R w4 sm A N k' er3 p4 l a m c T (if l.length = 0 then 16 else lastL l) w6)) := by
                            show Calls _ _ _ _ _
                            by_cases he2 : er2 = 0
                            · subst he2
                              have hm0 := (g3 rfl).2 rfl
                              refine (hbits_any g1.1 2 (by omega) R _ g2).mono ?_
                              rintro e w6 ⟨v, p4, er3, rfl, hv, hp4, H4⟩
                              obtain ⟨d6, f6, c6⟩ := H4.out
                              have hli := g1.go d6 f6
                              refine ⟨v, 3 + v, er3, rfl, by omega, by omega, (ds4 d6).1, fun h0 => ?_, p4, by omega, hli, by omega, by omega, fun e0 => (by rw [if_neg (by omega)]; exact i3 _), c6⟩
                              obtain ⟨g, e1, _, _, _, _, e6⟩ := hli.row h0
                              exact ⟨g, e1, e6 (m - 1) (by omega)⟩
                            · refine (hbits_err g1.1 he2 2).mono ?_
                              rintro e w6 ⟨rfl, rfl⟩
                              refine ⟨0, 3, er2, rfl, by omega, by omega, x42, fun h0 => ?_, p3', hpp4, g1, by omega, by omega, fun e0 => absurd e0 he2, .inl ⟨he2, g2.bad he2⟩⟩
                              obtain ⟨g, e1, _, _, _, _, e6⟩ := g1.row h0
                              exact ⟨g, e1, e6 (m - 1) (by omega)⟩
                          have hl0 : l.length = m := i6
                          rw [hl0] at HBT
                          by_cases hm0 : m = 0
                          · subst hm0
                            rw [if_pos rfl] at HBT
                            clear g1 g2 g3 i1 i2 i3 i4 i5 i6 H2 HLI HK hmk
                            go_wp2_with (first | (go_at_call 36; (with_reducible refine HBT.out.mono ?_); rintro e w6 ⟨v, T, er3, rfl, u1, u2, u3, u4, H6⟩))
                            go_meet
                            obtain ⟨p4, h6⟩ := H6.out
                            exact ⟨T, 16, er3, p4, by first | rfl | (congr 1), rfl, u2, by omega, u3, h6⟩
                          · rw [if_neg hm0] at HBT
                            have hmz : (0 : Int) < (m : Int) := by omega
                            obtain ⟨m1, hm1⟩ : ∃ m1, m1 = m - 1 := ⟨_, rfl⟩
                            have hm1i : (m : Int) - 1 = (m1 : Int) := by omega
                            have hm1l : m1 < m := by omega
                            have hm1z : (m1 : Int) < (m : Int) := by omega
                            have hlast : lastL l = l.getD m1 0 := by unfold lastL; rw [hl0, hm1]
                            have hll : l.getD m1 0 ≤ 15 := i3 m1
                            rw [← hm1, hlast] at HBT
                            generalize l.getD m1 0 = LX at *
                            have hpos : 0 < m := by omega
                            clear g1 g2 g3 i1 i2 i3 i4 i5 i6 H2 HLI HK hmk hlast hm1 hm0
                            go_wp2_with (first | (go_at_call 36; (with_reducible refine HBT.out.mono ?_); rintro e w6 ⟨v, T, er3, rfl, u1, u2, u3, u4, H6⟩; obtain ⟨g, rfl, u5⟩ := u4 hpos))
                            go_meet
                            obtain ⟨p4, h6⟩ := H6.out
                            exact ⟨T, LX, er3, p4, by first | rfl | (congr 1), rfl, u2, by omega, u3, h6⟩
                        · have z16 : ((y : Int) == 16) = false := by simp only [beq_eq_false_iff_ne, ne_eq]; omega
                          by_cases e17 : y = 17
                          · subst e17
                            rw [lnB, if_neg (by decide), if_pos rfl, bindR_assoc] at g2
                            have HBT : Hid (Calls Tryd.prog 36 #[.pointer (some ⟨sb, 0, none⟩), .int .i64 3] w5 fun e w6 => ∃ v T er3 : Nat, e = .returned (.int .i64 v) ∧ (v : Int) + 3 = (T : Int) ∧ T ≤ 138 ∧ w6.cell? ⟨sb, 4, none⟩ = some (.int .i64 (er3 : Nat)) ∧ (0 < m → ∃ g, a = some ⟨g, 0, none⟩ ∧ w6.cell? ⟨g, m - 1, none⟩ = some (.int .i64 (l.getD (m - 1) 0 : Nat))) ∧ Hid (∃ p4, TmD sb ga cg b most p og vo out R w4 sm A N k' er3 p4 l a m c T (0) w6)) := by
                              show Calls _ _ _ _ _
                              refine (hbits_any g1.1 3 (by omega) R _ g2).mono ?_
                              rintro e w6 ⟨v, p4, er3, rfl, hv, hp4, H4⟩
                              obtain ⟨d6, f6, c6⟩ := H4.out
                              have hli := g1.go d6 f6
                              refine ⟨v, 3 + v, er3, rfl, by omega, by omega, (ds4 d6).1, fun h0 => ?_, p4, by omega, hli, by omega, by omega, fun e0 => Nat.zero_le _, c6⟩
                              obtain ⟨g, e1, _, _, _, _, e6⟩ := hli.row h0
                              exact ⟨g, e1, e6 (m - 1) (by omega)⟩
                            clear g1 g2 g3 i1 i2 i3 i4 i5 i6 H2 HLI HK hmk
                            go_wp2_with (first | (go_at_call 36; (with_reducible refine HBT.out.mono ?_); rintro e w6 ⟨v, T, er3, rfl, u1, u2, u3, u4, H6⟩))
                            go_meet
                            obtain ⟨p4, h6⟩ := H6.out
                            exact ⟨T, 0, er3, p4, by first | rfl | (congr 1), rfl, u2, by omega, u3, h6⟩
                          · have z17 : ((y : Int) == 17) = false := by simp only [beq_eq_false_iff_ne, ne_eq]; omega
                            by_cases e18 : y = 18
                            · subst e18
                              rw [lnB, if_neg (by decide), if_neg (by decide), if_pos rfl, bindR_assoc] at g2
                              have HBT : Hid (Calls Tryd.prog 36 #[.pointer (some ⟨sb, 0, none⟩), .int .i64 7] w5 fun e w6 => ∃ v T er3 : Nat, e = .returned (.int .i64 v) ∧ (v : Int) + 11 = (T : Int) ∧ T ≤ 138 ∧ w6.cell? ⟨sb, 4, none⟩ = some (.int .i64 (er3 : Nat)) ∧ (0 < m → ∃ g, a = some ⟨g, 0, none⟩ ∧ w6.cell? ⟨g, m - 1, none⟩ = some (.int .i64 (l.getD (m - 1) 0 : Nat))) ∧ Hid (∃ p4, TmD sb ga cg b most p og vo out R w4 sm A N k' er3 p4 l a m c T (0) w6)) := by
                                show Calls _ _ _ _ _
                                refine (hbits_any g1.1 7 (by omega) R _ g2).mono ?_
                                rintro e w6 ⟨v, p4, er3, rfl, hv, hp4, H4⟩
                                obtain ⟨d6, f6, c6⟩ := H4.out
                                have hli := g1.go d6 f6
                                refine ⟨v, 11 + v, er3, rfl, by omega, by omega, (ds4 d6).1, fun h0 => ?_, p4, by omega, hli, by omega, by omega, fun e0 => Nat.zero_le _, c6⟩
                                obtain ⟨g, e1, _, _, _, _, e6⟩ := hli.row h0
                                exact ⟨g, e1, e6 (m - 1) (by omega)⟩
                              clear g1 g2 g3 i1 i2 i3 i4 i5 i6 H2 HLI HK hmk
                              go_wp2_with (first | (go_at_call 36; (with_reducible refine HBT.out.mono ?_); rintro e w6 ⟨v, T, er3, rfl, u1, u2, u3, u4, H6⟩))
                              go_meet
                              obtain ⟨p4, h6⟩ := H6.out
                              exact ⟨T, 0, er3, p4, by first | rfl | (congr 1), rfl, u2, by omega, u3, h6⟩
                            · have z18 : ((y : Int) == 18) = false := by simp only [beq_eq_false_iff_ne, ne_eq]; omega
                              rw [lnB, if_neg e16, if_neg e17, if_neg e18] at g2
                              have H6 : Hid (TmD sb ga cg b most p og vo out R w4 sm A N k' er2 p3' l a m c 1 y w5) := ⟨hpp4, g1, by omega, by omega, fun e0 => by have := (g3 e0).1; omega, g2⟩
                              clear g1 g2 g3 i1 i2 i3 i4 i5 i6 H2 HLI HK hmk e16 e17 e18
                              go_wp2_with fail
                              go_meet
                              exact ⟨1, y, er2, p3', rfl, rfl, by omega, hy, x42, H6⟩
                      case rest =>
                      obtain ⟨T, X, er3, p4, rfl, rfl, hT, hX, x43, H3⟩ := hcut
                      generalize wc = w6 at *
                      clear H2
                      obtain ⟨mT, hmT⟩ : ∃ mT, mT = m + T := ⟨_, rfl⟩
                      have hmTi : (m : Int) + (T : Int) = (mT : Int) := by omega
                      have hmTl : mT ≤ 1000 := by omega
                      have HMT : Hid (mT = m + T) := hmT
                      clear hmT
                      go_upto_region 29 with fail
                      go_cut [142] from 128 to 142 (fun v wx => ∃ B : Bool, v = .bool B ∧ Hid (B = true ↔ (er3 = 0 ∧ N < mT)) ∧ wx = w6)
                      case first =>
                        clear H3 HLI HK hmk HMT
                        by_cases e1 : er3 = 0
                        · subst e1
                          by_cases e2 : N < mT
                          · have e2' : (N : Int) < (mT : Int) := by omega
                            have HB : Hid (N < mT) := e2
                            clear e2
                            go_wp2_with fail
                            go_meet
                            exact ⟨true, rfl, ⟨fun _ => ⟨(by simp), HB.out⟩, fun _ => rfl⟩, rfl⟩
                          · have e2' : ¬ (N : Int) < (mT : Int) := by omega
                            have HB : Hid (¬ N < mT) := e2
                            clear e2
                            go_wp2_with fail
                            go_meet
                            exact ⟨false, rfl, ⟨fun h => (by cases h), fun h => absurd h.2 HB.out⟩, rfl⟩
                        · have e1' := ne0' e1
                          have HB : Hid (er3 ≠ 0) := e1
                          clear e1
                          go_wp2_with fail
                          go_meet
                          exact ⟨false, rfl, ⟨fun h => (by cases h), fun h => absurd h.1 HB.out⟩, rfl⟩
                      case rest =>
                      obtain ⟨B, rfl, HBB, rfl⟩ := hcut
                      have y43 := (ds4 H3.out.2.1.1).2
                      go_upto_if 142 with fail
                      go_cut [142] from 142 to 145 (fun v wx => ∃ er4 : Nat, wx.cell? ⟨sb, 4, none⟩ = some (.int .i64 (er4 : Nat)) ∧ Hid (TmD sb ga cg b most p og vo out R w4 sm A N k' er4 p4 l a m c T X wx ∧ (er4 = 0 → m + T ≤ N)))
                      case first =>
                        cases B with
                        | true =>
                          obtain ⟨hb1, hb2⟩ := HBB.out.1 rfl
                          obtain ⟨t1, t2, t3, t4, t5, t6⟩ := H3.out
                          subst hb1
                          obtain ⟨k1, k2⟩ := t2.1.setE 62 62 rfl
                          have hbad : R = .bad 62 := by
                            rw [t6.good]
                            exact bindR_bad (lens_over (by rw [List.length_append, List.length_replicate, ← t2.2.2.2.1, ← HMT.out]; exact hb2) _)
                          have J : Hid (TmD sb ga cg b most p og vo out R w4 sm A N k' 62 p4 l a m c T X (wc.setCell ⟨sb, 4, none⟩ (.int .i64 62)) ∧ (62 = 0 → m + T ≤ N)) := ⟨⟨t1, t2.go k1 k2, t3, t4, fun e => by omega, .inl ⟨by decide, hbad⟩⟩, fun e => by omega⟩
                          have j2 := (ds4 k1).1
                          clear H3 HLI HK hmk HMT HBB t1 t2 t3 t4 t5 t6 k1 k2 hbad hb2
                          go_wp2_with fail
                          go_meet
                          exact ⟨62, j2, J⟩
                        | false =>
                          have J : Hid (TmD sb ga cg b most p og vo out R w4 sm A N k' er3 p4 l a m c T X wc ∧ (er3 = 0 → m + T ≤ N)) := ⟨H3.out, fun e => by
                            by_cases hq : N < mT
                            · have := HBB.out.2 ⟨e, hq⟩; cases this
                            · have := HMT.out; omega⟩
                          clear H3 HLI HK hmk HMT HBB
                          go_wp2_with fail
                          go_meet
                          exact ⟨er3, x43, J⟩
                      case rest =>
                      obtain ⟨er4, x44, H4⟩ := hcut
                      generalize wc = w7 at *
                      clear H3 HBB HMT hmTi hmTl
                      have HI0 : Hid (LiD sb ga cg b most p4 og vo out er4 w4 (l ++ List.replicate 0 X) a m c w7) := by
                        show LiD _ _ _ _ _ _ _ _ _ _ _ _ _ _ _ _
                        rw [List.replicate_zero, List.append_nil]; exact H4.out.1.2.1
                      obtain ⟨gk0, hgk0⟩ : ∃ gk0, gk0 = gk := ⟨_, rfl⟩
                      have HNX : Hid (∀ (a' : Option Addr) (m' c' : Nat) (V : World), LiD sb ga cg b most p4 og vo out er4 w4 (l ++ List.replicate T X) a' m' c' V → LnD sb ga cg b most p og vo out R w4 sm A N (gk0 - 1) er4 p4 (l ++ List.replicate T X) a' m' c' V) := fun a' m' c' V hV => by
                        obtain ⟨⟨t1, t2, t3, t4, t5, t6⟩, t7⟩ := H4.out
                        obtain ⟨i1, i2, i3, i4, i5, i6⟩ := HLI.out
                        exact LnD.next t1 hV t3 (fun e => by rw [List.length_append, List.length_replicate, i6]; exact t7 e) t5 (fun _ => i3) (fun _ => i5) (fun _ => by omega) t6
                      have HGK : Hid (gk0 - 1 < gk) := by have := HLI.out.2.2.2.1; show _ < _; omega
                      clear H4 HLI hgk0 x42 x43 y43
                      go_wp2_with fail
                      go_loopg [10, 14] T (fun kx v i wz => ∃ (J c' m' : Nat) (a' : Option Addr), J ≤ T ∧ T - J ≤ kx ∧ v = .slice a' m' c' ∧ i = .int .i64 J ∧ m' ≤ 330 + J ∧ wz.cell? ⟨sb, 4, none⟩ = some (.int .i64 (er4 : Nat)) ∧ Hid (LiD sb ga cg b most p4 og vo out er4 w4 (l ++ List.replicate J X) a' m' c' wz))
                      case atStart => exact ⟨0, c, m, a, by omega, by omega, rfl, rfl, by omega, x44, HI0⟩
                      case round =>
                        clear HI0 x44
                        obtain ⟨J, c', m', a', hJ, hkx2, rfl, rfl, hm', x45, HI⟩ := hrel
                        by_cases hltJ : J < T
                        · have hzJ : (J : Int) < (T : Int) := by omega
                          obtain ⟨a2, c2, W, HAP, HN⟩ := HI.out.push (by omega) X
                          have hx2 := (ds4 HN.out.1).1
                          rw [List.append_assoc, ← List.replicate_succ'] at HN
                          clear HI HNX HGK HK hmk
                          go_wp2_with (first | (at_builtin; refine Lib.wpList_append_run _ rfl _ _ 42 42 rfl (.slice a' m' c') (.slice (some ⟨wr.heap.size, 0, none⟩) 1 1) (by simp [Act.eval]) (by simp [Act.eval]) _ _ (HAP.out _) ?_))
                          go_roundg (T - (J + 1))
                          case measure => omega
                          case rel => exact ⟨J + 1, c2, m' + 1, a2, by omega, by omega, rfl, by first | rfl | (congr 1), by omega, hx2, HN⟩
                        · obtain rfl : J = T := by omega
                          have hzJ : ¬ (J : Int) < (J : Int) := by omega
                          have HLN : Hid (LnD sb ga cg b most p og vo out R w4 sm A N (gk0 - 1) er4 p4 (l ++ List.replicate J X) a' m' c' wr) := HNX.out _ _ _ _ HI.out
                          clear HI HNX HK hmk
                          generalize gk0 - 1 = gk1 at *
                          go_wp2_with fail
                          go_roundg gk1
                          case measure => exact HGK.out
                          case rel => exact ⟨er4, p4, m', _, a', c', rfl, by omega, x45, HLN⟩
                    · have hmN : m = N := by omega
                      have hR5 := l10.good
                      rw [lens_done (by omega), bindR_ret] at hR5
                      have hli : LiD sb ga cg b most p2 og vo out 0 w4 l a m c wr := ⟨l2, l3, l4, l5, ol, l6, l7⟩
                      obtain ⟨g, rfl, hg4, hmc, hc63, how, hcl⟩ := hli.row (by omega)
                      have hlN : l.length = N := by omega
                      have hmz : ¬ (m : Int) < (N : Int) := by omega
                      have p1 := how.partG 0 A (by omega) c (by omega) hc63
                      have p2' := how.partG A (N - A) (by omega) (c - A) (by omega) (by omega)
                      rw [List.drop_zero] at p1
                      rw [List.take_of_length_le (by rw [List.length_drop]; omega)] at p2'
                      have h256 := hcl 256 (by omega)
                      have hlt15 : ∀ i, (l.drop A).getD i 0 ≤ 15 := fun i => by
                        rw [List.getD_eq_getElem?_getD, List.getElem?_drop, ← List.getD_eq_getElem?_getD]; exact m2 _
                      have hdl : (l.drop A).length ≤ 320 := by rw [List.length_drop]; omega
                      have htl : (l.take A).length ≤ 320 := by rw [List.length_take]; omega
                      have HGa : Hid (Calls Tryd.prog 50 #[.slice (some ⟨g, 0, none⟩) A c, .bool true] wr fun e w' => e = .returned (.bool (goodD (l.take A) true)) ∧ wr = w') := ggood_any wr _ _ (p1.mono (fun _ h => h.elim)) htl true
                      have HNb : Hid (Calls Tryd.prog 51 #[.slice (some ⟨g, A, none⟩) (N - A) (c - A)] wr fun e w' => e = .returned (.bool (decide (sumL (l.drop A) = 0))) ∧ wr = w') := gnone_any wr _ _ (p2'.mono (fun _ h => h.elim)) hlt15 hdl
                      have HGb : Hid (Calls Tryd.prog 50 #[.slice (some ⟨g, A, none⟩) (N - A) (c - A), .bool true] wr fun e w' => e = .returned (.bool (goodD (l.drop A) true)) ∧ wr = w') := ggood_any wr _ _ (p2'.mono (fun _ h => h.elim)) hdl true
                      have hfw : Fr (fun k => k = sb) w wr := HFR.out.trans l3
                      have hww : w.heap.size ≤ w4.heap.size := HFR.out.size
                      have hgw : g < wr.heap.size := how.lt
                      have HYES : Hid (l.getD 256 0 ≠ 0 → goodD (l.take A) true = true → (sumL (l.drop A) = 0 ∨ goodD (l.drop A) true = true) → ∀ V, Nw wr V → P (.returned (.tuple #[.slice (some ⟨g, 0, none⟩) A c, .slice (some ⟨g, A, none⟩) (N - A) (c - A)])) V) := fun q1 q2 q3 V hV => by
                        rw [HP.out]
                        refine ⟨_, _, _, _, _, _, rfl, p2, 0, l1, l2.nw hV, hfw.trans hV.any, .inr ⟨rfl, l.take A, l.drop A, ?_, ?_, ?_, ((goodD_true _).1 q2).1, hlt15, hdl, ?_⟩⟩
                        · rw [hR5, ownK, if_pos ⟨q1, (goodD_true _).1 q2, q3.imp (fun h => h) (fun h => (goodD_true _).1 h)⟩]; rfl
                        · exact (p1.nw hV).mono (fun k hk e => by subst e; have := hV.size; rcases hk with hk | hk <;> omega)
                        · exact (p2'.nw hV).mono (fun k hk e => by subst e; have := hV.size; rcases hk with hk | hk <;> omega)
                        · exact q3.imp (fun h => h) (fun h => ((goodD_true _).1 h).1)
                      have HNO : Hid (¬ (l.getD 256 0 ≠ 0 ∧ goodD (l.take A) true = true ∧ (sumL (l.drop A) = 0 ∨ goodD (l.drop A) true = true)) → ∀ V, Nw wr V → P (.returned (.tuple #[.slice (some ⟨g, 0, none⟩) A c, .slice (some ⟨g, A, none⟩) (N - A) (c - A)])) (V.setCell ⟨sb, 4, none⟩ (.int .i64 62))) := fun q V hV => by
                        obtain ⟨k1, k2⟩ := (l2.nw hV).setE 62 62 rfl
                        rw [HP.out]
                        refine ⟨_, _, _, _, _, _, rfl, p2, 62, l1, k1, (hfw.trans hV.any).trans k2, .inl ⟨by decide, ?_⟩⟩
                        rw [hR5, ownK, if_neg (fun hh => q ⟨hh.1, (goodD_true _).2 hh.2.1, hh.2.2.imp (fun h => h) (fun h => (goodD_true _).2 h)⟩)]; rfl
                      have HCE : Hid (∀ V, Nw wr V → V.cell? ⟨g, 256, none⟩ = some (.int .i64 (l.getD 256 0 : Nat)) ∧ V.cell? ⟨sb, 4, none⟩ = some (.int .i64 (0 : Nat)) ∧ V.frozen? ⟨sb, 4, none⟩ = false) := fun V hV => ⟨hV.cell h256, (ds4 (l2.nw hV)).1, (ds4 (l2.nw hV)).2⟩
                      have HGa2 : Hid (∀ V, Nw wr V → Calls Tryd.prog 50 #[.slice (some ⟨g, 0, none⟩) A c, .bool true] V fun e w' => e = .returned (.bool (goodD (l.take A) true)) ∧ V = w') := fun V hV => ggood_any V _ _ ((p1.nw hV).mono (fun _ h => h.elim)) htl true
                      have HNb2 : Hid (∀ V, Nw wr V → Calls Tryd.prog 51 #[.slice (some ⟨g, A, none⟩) (N - A) (c - A)] V fun e w' => e = .returned (.bool (decide (sumL (l.drop A) = 0))) ∧ V = w') := fun V hV => gnone_any V _ _ ((p2'.nw hV).mono (fun _ h => h.elim)) hlt15 hdl
                      have HGb2 : Hid (∀ V, Nw wr V → Calls Tryd.prog 50 #[.slice (some ⟨g, A, none⟩) (N - A) (c - A), .bool true] V fun e w' => e = .returned (.bool (goodD (l.drop A) true)) ∧ V = w') := fun V hV => ggood_any V _ _ ((p2'.nw hV).mono (fun _ h => h.elim)) hdl true
                      have hAz : (A : Int) ≤ (N : Int) := by omega
                      have hAc : (A : Int) ≤ (c : Int) := by omega
                      have hNc : (N : Int) ≤ (c : Int) := by omega
                      have hcA : ¬ c = A := by omega
                      have hA256 : (256 : Int) < (A : Int) := by omega
                      generalize hG1 : goodD (l.take A) true = G1 at *
                      generalize hG2 : goodD (l.drop A) true = G2 at *
                      generalize hS2 : sumL (l.drop A) = S2 at *
                      generalize hL2 : l.getD 256 0 = L2 at *
                      subst hmN
                      clear HL l2 l3 l4 l5 l6 l7 l8 l9 l10 hR5 m1 m2 m3 l9' HX HP HFR HSM HK hli how hcl p1 p2' h256 hlt15 hdl htl hfw hww hgw hG1 hG2 hS2 hL2 HGa HNb HGb hmk hlN
                      go_upto_region 37 with fail
                      go_quiet (fail)
                      have hNV : Nw wr (wr.drewN nq) := (Fr.refl _ _).drewN _
                      obtain ⟨v1, v2, v3⟩ := HCE.out _ hNV
                      have HG1 : Hid (Calls Tryd.prog 50 #[.slice (some ⟨g, 0, none⟩) A c, .bool true] (wr.drewN nq) fun e w' => e = .returned (.bool G1) ∧ wr.drewN nq = w') := HGa2.out _ hNV
                      have HN1 : Hid (Calls Tryd.prog 51 #[.slice (some ⟨g, A, none⟩) (m - A) (c - A)] (wr.drewN nq) fun e w' => e = .returned (.bool (decide (S2 = 0))) ∧ wr.drewN nq = w') := HNb2.out _ hNV
                      have HG2 : Hid (Calls Tryd.prog 50 #[.slice (some ⟨g, A, none⟩) (m - A) (c - A), .bool true] (wr.drewN nq) fun e w' => e = .returned (.bool G2) ∧ wr.drewN nq = w') := HGb2.out _ hNV
                      have HY1 : Hid (L2 ≠ 0 → G1 = true → (S2 = 0 ∨ G2 = true) → P (.returned (.tuple #[.slice (some ⟨g, 0, none⟩) A c, .slice (some ⟨g, A, none⟩) (m - A) (c - A)])) (wr.drewN nq)) := fun q1 q2 q3 => HYES.out q1 q2 q3 _ hNV
                      have HN2 : Hid (¬ (L2 ≠ 0 ∧ G1 = true ∧ (S2 = 0 ∨ G2 = true)) → P (.returned (.tuple #[.slice (some ⟨g, 0, none⟩) A c, .slice (some ⟨g, A, none⟩) (m - A) (c - A)])) ((wr.drewN nq).setCell ⟨sb, 4, none⟩ (.int .i64 62))) := fun q => HNO.out q _ hNV
                      clear HGa2 HNb2 HGb2 HYES HNO HCE hNV x4 y4
                      generalize wr.drewN nq = V9 at *
                      generalize m - A = MA at *
                      generalize c - A = CA at *
                      by_cases hL0 : L2 = 0
                      · have HF : Hid (P (.returned (.tuple #[.slice (some ⟨g, 0, none⟩) A c, .slice (some ⟨g, A, none⟩) MA CA])) (V9.setCell ⟨sb, 4, none⟩ (.int .i64 62))) := HN2.out (fun h => h.1 hL0)
                        subst hL0
                        clear HG1 HN1 HG2 HY1 HN2
                        go_wp2_with fail
                        exact HF.out
                      · have zL := ne0' hL0
                        cases G1 with
                        | false =>
                          have HF : Hid (P (.returned (.tuple #[.slice (some ⟨g, 0, none⟩) A c, .slice (some ⟨g, A, none⟩) MA CA])) (V9.setCell ⟨sb, 4, none⟩ (.int .i64 62))) := HN2.out (fun h => by cases h.2.1)
                          clear HN1 HG2 HY1 HN2
                          go_wp2_with (first | (go_at_call 50; (with_reducible refine HG1.out.mono ?_); rintro e w' ⟨rfl, rfl⟩))
                          exact HF.out
                        | true =>
                          by_cases hS0 : S2 = 0
                          · have HF : Hid (P (.returned (.tuple #[.slice (some ⟨g, 0, none⟩) A c, .slice (some ⟨g, A, none⟩) MA CA])) V9) := HY1.out hL0 rfl (.inl hS0)
                            rw [decide_eq_true hS0] at HN1
                            clear HG2 HY1 HN2
                            go_wp2_with (first | (go_at_call 50; (with_reducible refine HG1.out.mono ?_); rintro e w' ⟨rfl, rfl⟩) | (go_at_call 51; (with_reducible refine HN1.out.mono ?_); rintro e w' ⟨rfl, rfl⟩))
                            exact HF.out
                          · rw [decide_eq_false hS0] at HN1
                            cases G2 with
                            | false =>
                              have HF : Hid (P (.returned (.tuple #[.slice (some ⟨g, 0, none⟩) A c, .slice (some ⟨g, A, none⟩) MA CA])) (V9.setCell ⟨sb, 4, none⟩ (.int .i64 62))) := HN2.out (fun h => by rcases h.2.2 with h | h; exact hS0 h; cases h)
                              clear HY1 HN2
                              go_wp2_with (first | (go_at_call 50; (with_reducible refine HG1.out.mono ?_); rintro e w' ⟨rfl, rfl⟩) | (go_at_call 51; (with_reducible refine HN1.out.mono ?_); rintro e w' ⟨rfl, rfl⟩) | (go_at_call 50; (with_reducible refine HG2.out.mono ?_); rintro e w' ⟨rfl, rfl⟩))
                              exact HF.out
                            | true =>
                              have HF : Hid (P (.returned (.tuple #[.slice (some ⟨g, 0, none⟩) A c, .slice (some ⟨g, A, none⟩) MA CA])) V9) := HY1.out hL0 rfl (.inr rfl)
                              clear HY1 HN2
                              go_wp2_with (first | (go_at_call 50; (with_reducible refine HG1.out.mono ?_); rintro e w' ⟨rfl, rfl⟩) | (go_at_call 51; (with_reducible refine HN1.out.mono ?_); rintro e w' ⟨rfl, rfl⟩) | (go_at_call 50; (with_reducible refine HG2.out.mono ?_); rintro e w' ⟨rfl, rfl⟩))
                              exact HF.out
              · have hg' : goodD sm false = false := by
                  cases h : goodD sm false with
                  | false => rfl
                  | true => exact absurd h hg
                rw [hg'] at HG
                have hbad : R = .bad 62 := by
                  rw [hR4, ownL, if_pos (fun h => hg ((goodD_small sm).2 h))]; rfl
                obtain ⟨k1, k2⟩ := hd.setE 62 62 rfl
                have HF : Hid (P (.returned (.tuple #[.slice none 0 0, .slice none 0 0])) (wr.setCell ⟨sb, 4, none⟩ (.int .i64 62))) := HX.out _ p' 62 hpp (by decide) hbad k1 (hfr.trans k2)
                have z4 := (ds4 k1).1
                clear HS hcn hd hfr hR4 hsw h19 hsl hg hg' hbad k1 k2 HX HP HF5 hGS
                go_upto_region 12 with (first | (go_at_call 50; (with_reducible refine HG.out.mono ?_); rintro e w' ⟨rfl, rfl⟩))
                generalize wr.setCell ⟨sb, 4, none⟩ (.int .i64 62) = W7 at *
                go_wp2_with fail
                go_loopg [] 1 (fun kx wz => wz = W7)
                case atStart => rfl
                case round =>
                  obtain rfl := hrel
                  go_wp2_with fail
                  exact HF.out
  · have hE4 := he3
    have hz := ne0' he3
    have hz2 := ne0 he3
    have HD4 : Hid (DsI sb ga cg b most p3 og vo out er3 w3 ∧ Fr (fun k => k = sb) w w3 ∧ R = .bad er3) := ⟨d3, fr3, cn3.bad he3⟩
    clear d3 fr3 cn3
    go_upto_region 4 with fail
    generalize w3 = V4 at *
    clear x4 y4
    go_cut [7] (fun o wx => ∃ OB, o = .pointer (some ⟨OB, 0, none⟩) ∧ Hid (OrI V4 OB wx))
    case first =>
      as_aux_lemma =>
        clear HD4 HX HP hmk
        obtain ⟨C, hC⟩ : ∃ C : Array Value, C = #[.int .i64 16, .int .i64 17, .int .i64 18, .int .i64 0, .int .i64 8, .int .i64 7, .int .i64 9, .int .i64 6, .int .i64 10, .int .i64 5, .int .i64 11, .int .i64 4, .int .i64 12, .int .i64 3, .int .i64 13, .int .i64 2, .int .i64 14, .int .i64 1, .int .i64 15] := ⟨_, rfl⟩
        have HO : Hid (∀ old, OrI V4 V4.heap.size ((V4.alloc (.cells old 91)).setRow V4.heap.size C)) := fun old => by rw [hC]; exact ord_laid V4 old
        have HBU : Hid (∀ a : Act, Tryd.prog.built 91 ((#[(0, Operand.const (Value.int IntKind.i64 16)), (1, Operand.const (Value.int IntKind.i64 17)), (2, Operand.const (Value.int IntKind.i64 18)), (3, Operand.const (Value.int IntKind.i64 0)), (4, Operand.const (Value.int IntKind.i64 8)), (5, Operand.const (Value.int IntKind.i64 7)), (6, Operand.const (Value.int IntKind.i64 9)), (7, Operand.const (Value.int IntKind.i64 6)), (8, Operand.const (Value.int IntKind.i64 10)), (9, Operand.const (Value.int IntKind.i64 5)), (10, Operand.const (Value.int IntKind.i64 11)), (11, Operand.const (Value.int IntKind.i64 4)), (12, Operand.const (Value.int IntKind.i64 12)), (13, Operand.const (Value.int IntKind.i64 3)), (14, Operand.const (Value.int IntKind.i64 13)), (15, Operand.const (Value.int IntKind.i64 2)), (16, Operand.const (Value.int IntKind.i64 14)), (17, Operand.const (Value.int IntKind.i64 1)), (18, Operand.const (Value.int IntKind.i64 15))] : Array (Nat × Operand)).map fun (i, x) => (i, a.eval x)).toList = some C) := fun a => by rw [hC]; exact ord_built a
        have HSI : Hid ((Tryd.prog.info? 91).map (·.size) = some C.size) := by show _ = _; rw [hC]; exact ord_size
        have HON : Hid (C.all (·.oneCell') = true) := by show _ = _; rw [hC]; exact ord_one
        have HCS : Hid (19 = C.size) := by show _ = _; rw [hC]; rfl
        clear hC
        go_wp2_with (first
          | (refine wpList_buildTo rfl 91 _ rfl _ rfl C (HBU.out _) ?_)
          | (refine wpList_store_row rfl 91 _ _ rfl V4.heap.size C (by simp [Act.eval]) (by simp [Act.eval]) 91 _ (new_heap _ _) HSI.out HCS.out HON.out ?_))
        go_meet
        exact ⟨_, rfl, HO.out _⟩
    case rest =>
    obtain ⟨OB, rfl, HOR⟩ := hcut
    generalize wc = W5 at *
    obtain ⟨d4, f4, c4⟩ := HD4.out
    obtain ⟨ob1, ob2, ob3⟩ := HOR.out
    have hlo4 := d4.lo
    have d5 := d4.nw ob2
    have hN6 : Nw W5 (W5.alloc (.cells Z 3)) := (Fr.refl _ _).alloc _
    have HS0 : Hid (BdI sb ga cg b most p3 og vo out er3 W5 W5.heap.size (W5.alloc (.cells Z 3))) := ⟨d5.nw hN6, hN6.any, Nat.le_refl _, d5.lo, List.replicate 19 0, (small_start W5 d5.lo d5 (p0 := 0) (R := .bad er3) (A := 0) (N := 0) (n := 0) (Nat.zero_le _) (.inl ⟨hE4, rfl⟩) Z HZ.out).2.2.2.1, by simp⟩
    have HF5 : Hid (Fr (fun k => k = sb) w W5) := f4.trans ob2.any
    have hx0 : (W5.alloc (.cells Z 3)).cell? ⟨sb, 4, none⟩ = some (.int .i64 (er3 : Nat)) := Nw.cell ((Fr.refl _ _).alloc _) (ds4 d5).1
    have HOC : Hid (∀ V, Fr (fun k => k = sb) W5 V → ∀ I, I < 19 → V.cell? ⟨OB, I, none⟩ = some (.int .i64 (ordL.getD I 0 : Nat))) := fun V hV I hI => hV.cellv (ob3 I hI) (fun e => by have := hlo4.1; simp only at e; omega)
    have HOB : Hid (OB < W5.heap.size) := ob1.1
    have HBAD : Hid (R = .bad er3) := c4
    clear d4 f4 c4 ob1 ob2 ob3 hlo4 d5 HD4 HOR hN6
    go_upto_region 6 with fail
    generalize W5.alloc (.cells Z 3) = W6 at *
    obtain ⟨GS, hGS⟩ : ∃ GS, GS = W5.heap.size := ⟨_, rfl⟩
    rw [← hGS] at HS0 ⊢
    clear hGS hmk HZ
    go_wp2_with fail
    go_loopg [9] n (fun kx i wr => ∃ I : Nat, I ≤ n ∧ n - I ≤ kx ∧ i = .int .i64 I ∧ wr.cell? ⟨sb, 4, none⟩ = some (.int .i64 (er3 : Nat)) ∧ Hid (BdI sb ga cg b most p3 og vo out er3 W5 GS wr))
    case atStart => exact ⟨0, by omega, by omega, rfl, hx0, HS0⟩
    case round =>
      clear HS0 hx0
      obtain ⟨I, hI, hkx, rfl, x4, HS⟩ := hrel
      by_cases hlt : I < n
      · have hz1 : (I : Int) < (n : Int) := by omega
        have hfw : Fr (fun k => k = sb) W5 wr := HS.out.2.1
        have hJl := ordD_lt I (by omega)
        have HBI : Hid (∀ V, Nw wr V → Calls Tryd.prog 36 #[.pointer (some ⟨sb, 0, none⟩), .int .i64 3] V fun e w1 => ∃ x : Nat, e = .returned (.int .i64 x) ∧ w1.cell? ⟨OB, I, none⟩ = some (.int .i64 (ordL.getD I 0 : Nat)) ∧ (∃ q : Nat, w1.cell? ⟨GS, ordL.getD I 0, none⟩ = some (.int .i64 q)) ∧ w1.frozen? ⟨GS, ordL.getD I 0, none⟩ = false ∧ (w1.setCell ⟨GS, ordL.getD I 0, none⟩ (.int .i64 x)).cell? ⟨OB, I, none⟩ = some (.int .i64 (ordL.getD I 0 : Nat)) ∧ (w1.setCell ⟨GS, ordL.getD I 0, none⟩ (.int .i64 x)).cell? ⟨sb, 4, none⟩ = some (.int .i64 (er3 : Nat)) ∧ Hid (BdI sb ga cg b most p3 og vo out er3 W5 GS (w1.setCell ⟨GS, ordL.getD I 0, none⟩ (.int .i64 x)))) := fun V hV => by
          refine (HS.out.step (I := I) hE4 (by omega) V hV).mono ?_
          rintro e w1 ⟨x, rfl, f1, q1, q2, H1⟩
          exact ⟨x, rfl, HOC.out w1 (hfw.trans f1) I (by omega), q1, q2, ((Fr.refl (fun k => k = GS) w1).setCell _ _ (.inl rfl)).cellv (HOC.out w1 (hfw.trans f1) I (by omega)) (fun e => by have h8 := HS.out.2.2.1; have h9 := HOB.out; simp only at e; omega), (ds4 H1.out.1).1, H1⟩
        have ho := HOC.out wr hfw I (by omega)
        generalize ordL.getD I 0 = J at *
        have hJ0 : (0 : Int) ≤ (J : Int) := by omega
        have hJ19 : (J : Int) < 19 := by omega
        have hI0 : (0 : Int) ≤ (I : Int) := by omega
        have hI19 : (I : Int) < 19 := by omega
        clear HS HOC hfw HX HP HF5 HOB HBAD
        have ho' : wr.drew.cell? ⟨OB, I, none⟩ = some (.int .i64 (J : Nat)) := ho
        go_upto_region 9 with fail
        go_region_held3 (fun W => W.cell? ⟨OB, I, none⟩ = some (.int .i64 (J : Nat)))
          (first | assumption)
          (first | (go_at_call 36; with_reducible refine (HBI.out _ ?_).mono ?_; (first | exact (Fr.refl _ _).drew | exact Fr.refl _ _); rintro e w1 ⟨x, rfl, t1, ⟨q, t2⟩, t3, t4, t5, HN⟩))
        all_goals go_wp2_with fail
        all_goals go_roundg (n - (I + 1))
        all_goals (first
          | omega
          | exact ⟨I + 1, by omega, by omega, by first | rfl | (congr 1), t5, HN⟩)
      · obtain rfl : I = n := by omega
        have hz1 : ¬ (I : Int) < (I : Int) := by omega
        have HF : Hid (P (.returned (.tuple #[.slice none 0 0, .slice none 0 0])) wr) := HX.out wr p3 er3 hp3 hE4 HBAD.out HS.out.1 (HF5.out.trans HS.out.2.1)
        have hz := ne0' hE4
        have hz2 := ne0 hE4
        clear HS HX HP HF5 HOC HOB HBAD
        go_wp2_with fail
        go_loopg [] 1 (fun kx wz => wz = wr)
        case atStart => rfl
        case round =>
          obtain rfl := hrel
          go_wp2_with fail
          exact HF.out
end Go.Proofs.YtincbbnppcpfpaaDoor
