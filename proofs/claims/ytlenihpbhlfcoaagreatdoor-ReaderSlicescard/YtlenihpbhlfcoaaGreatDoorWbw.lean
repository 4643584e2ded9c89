import Derived.Test.YtlenihpbhlfcoaaGreatDoorWbv
import Derived.Lib.AppendZerosOnto
set_option maxHeartbeats 8000000
set_option maxRecDepth 100000
set_option linter.unusedSimpArgs false
set_option linter.unusedVariables false
namespace Go.Proofs.YtlenihpbhlfcoaaGreatDoor
open Go.RowKit Go.Deep
theorem fold_it (L : List Value) : ∀ (k : Nat) (b : Array Value), k + L.length ≤ b.size → ((L.zipIdx k).foldl (fun cs (x : Value × Nat) => cs.setIfInBounds (0 + x.2) x.1) b).toList = b.toList.take k ++ (L ++ b.toList.drop (k + L.length)) := by
 induction L with
 | nil => intro k b h; simp
 | cons c L ih =>
  intro k b h;rw [List.length_cons] at h;rw [List.zipIdx_cons, List.foldl_cons, ih (k + 1) _ (by simp; omega)];simp only [Nat.zero_add, Array.toList_setIfInBounds];have hk : k < b.toList.length := by simp; omega
  rw [List.drop_set_of_lt (by omega), List.take_add_one, List.getElem?_set_self hk, List.take_set_of_le (by omega)];simp [List.length_cons, Nat.add_assoc, Nat.add_comm 1]
theorem fill_it (base C : Array Value) (hb : base.size = 22) (hC : C.size = 22) : Instr.fill (fun i => some (i * 22, 22)) base [(0, .agg C)] = some C := by
 unfold Instr.fill;simp only [Value.cells, Nat.zero_mul];rw [if_neg (by simp [hb, hC])];unfold Instr.fill;congr 1;apply Array.ext';have := fold_it C.toList 0 base (by simp [hb, hC]);rw [← Array.foldl_toList, Array.toList_zipIdx];refine Eq.trans this ?_;simp [hb, hC]
theorem infoIt : ∃ ie, Tryz.prog.info? 36 = some ie ∧ ie.zero = some (.agg ziC) ∧ ie.size = 22 ∧ ie.bytes = 232 := by
 have h : (Tryz.prog.info? 36).map (fun i => (i.zero, i.size, i.bytes)) = some (some (.agg ziC), 22, 232) := by kernel_rfl
 cases hq : Tryz.prog.info? 36 with
 | none => simp [hq] at h
 | some i => simp [hq] at h; exact ⟨i, rfl, h.1, h.2.1, h.2.2⟩
theorem wpList_bsI {ops : Array Oper} {rest : List Oper} {o : Oper} {a : Act} {w : World} {Q : Exit → Act → World → Prop} (hg : o.guard = none) (x : Operand) (ho : o.op = .buildSlice 24 1 #[(0, x)]) (C : Array Value) (hx : a.eval x = .agg C) (hC : C.size = 22)
  (h : wpList Tryz.prog ops Q rest (a.put o.dst (.slice (some ⟨w.heap.size, 0, none⟩) 1 1)) (w.alloc (.cells C 36))) : wpList Tryz.prog ops Q (o :: rest) a w := by
 obtain ⟨ie, hie1, hie2, hie3, hie4⟩ := infoIt;refine wpList_buildSlice hg 24 36 1 _ ho C ie (.agg ziC) Tryz.underlying24 hie1 hie2 (by rw [hie3]; decide) (by rw [hie3]; decide) ?_ h;have e : (#[((0 : Nat), x)].map fun (p : Nat × Operand) => (p.1, a.eval p.2)).toList = [(0, .agg C)] := by simp [hx]
 rw [hie3];refine Eq.trans ?_ (fill_it ((Array.range (1 * 22)).map ((Value.agg ziC).cells[· % (Value.agg ziC).cells.size]!)) C (by simp) hC);exact congrArg _ e
variable {rb : Nat} {va : Option Addr} {vc : Nat} {b : List By}
theorem qRead_any (w : World) (va : Option Addr) (vc : Nat) (b : List By) (hb : Old w (.slice va b.length vc) b) (hbl : b.length ≤ 140737488351232) (hE : Env w) : Calls Tryz.prog 9 #[.slice va b.length vc] w (ReA b w) := by
 refine asP fun P hP => ?_
 have HP := tHid hP;have H0 := tHid (rdJ_start va vc b w hb hbl);have HEB := tHid (EnvB.of hE);have HBL := tHid hbl;obtain ⟨N, hN⟩ : ∃ N, b.length = N := ⟨_, rfl⟩;have HN := tHid hN;obtain ⟨W0, hW0⟩ : ∃ W0, w.alloc (.cells #[.slice va b.length vc, .int .i64 0, .slice none 0 0, .int .i64 0] 51) = W0 := ⟨_, rfl⟩;rw [hW0] at H0;rw [hN] at hW0 ⊢;have HW0 := tHid hW0;clear hP hb hbl hE hN hW0;go_enter Tryz.func9, Tryz.ntmps9
 go_wp2_with fail
 go_loopg [6, 7, 8, 9] N (fun kx v6 v7 v8 v9 wr => ∃ (v : Value) (p : Nat) (vG : Value) (G : List Pr) (og : Option Nat) (L : List Ix), v = v6 ∧ N ≤ p + kx ∧ p ≤ N ∧ Hid (RdJ w w.heap.size va vc b p vG G og v L wr))
 case atStart => exact ⟨_, 0, .slice none 0 0, [], none, [], rfl, by omega, by omega, (by have h := H0.out; rw [← HW0.out] at h; exact h)⟩
 case round =>
  obtain ⟨v, p, vG, G, og, L, hv, hkx, hp, K⟩ := hrel;subst hv;obtain ⟨av, cv, ev, _, _⟩ := K.out.lo.form;subst ev;obtain ⟨Ln, hLn⟩ : ∃ Ln, L.length = Ln := ⟨_, rfl⟩;have HLn := tHid hLn;rw [hLn] at K ⊢;clear hLn;have HNX : Hid (Calls Tryz.prog 13 #[.pointer (some ⟨w.heap.size, 0, none⟩)] wr fun e V =>
   (∃ (a E : Nat), e = .returned (.tuple #[.agg ziC, .bool false, .int .i64 (E : Nat)]) ∧ Hid (V.cell? ⟨w.heap.size, 1, none⟩ = some (.int .i64 (a : Nat)) ∧ ∀ W, Nw V W → P (.returned (.tuple #[.slice av Ln cv, .int .i64 (a : Nat), .int .i64 (E : Nat)])) W)) ∨
   (∃ y : Ix, e = .returned (.tuple #[.agg y.C, .bool true, .int .i64 0]) ∧ Hid (∃ (a : Nat) (vG' : Value) (G' : List Pr), p + 512 ≤ a ∧ a ≤ N ∧ ∀ V2, Nw V V2 → ∃ og' v' W, (∀ ty, (Builtin.append_ #[24, 24] ty #[.slice av Ln cv, .slice (some ⟨V2.heap.size, 0, none⟩) 1 1]).run Tryz.prog (V2.alloc (.cells y.C 36)) = .ok v' W) ∧ RdJ w w.heap.size va vc b a vG' G' og' v' (L ++ [y]) W))) := by
   have h := K.out;have hEB : EnvB w.heap.size wr := HEB.out.fr h.fr (Nat.le_refl _) (fun k hk => hk.elim);have hNX := qNext_any wr p vG G h.rl h.ok w.heap.size hEB ⟨h.fr.size, h.le⟩ (fun k => og = some k) h.gz (fun k hk => h.lo.lt k hk);refine hNX.mono fun e V hA => ?_
   cases hR : nx b p G ah0 none with
   | fin a G' =>
    rw [hR] at hA;obtain ⟨vG', rfl, h1, h2, h3, h4⟩ := hA;exact .inl ⟨a, 0, rfl, cell_of h2.row 1 _ rfl, fun W hW => by rw [HP.out]; exact h.ends h1 hW (rdR_fin hR)⟩
   | bad a E G' =>
    rw [hR] at hA;obtain ⟨rfl, h1, vG', h2⟩ := hA;exact .inl ⟨a, E, rfl, cell_of h2 1 _ rfl, fun W hW => by rw [HP.out]; exact h.ends h1 hW (rdR_bad hR)⟩
   | more x a G' =>
    rw [hR] at hA;obtain ⟨vM, vP, vG', rfl, h1, h2, h3, h4, h5, h6, h7⟩ := hA;obtain ⟨a1, m1, c1, e1⟩ := h4.1;obtain ⟨a2, m2, c2, e2⟩ := h6;subst e1 e2;have hx := nx_end hR;have hN := HN.out;refine .inr ⟨⟨x, a1, m1, c1, a2, m2, c2⟩, rfl, a, vG', G', hx.1, by omega, fun V2 hV2 => ?_⟩;have hln := h.ln;have hbl := HBL.out;have hLl : L.length ≤ 600000000000 := by omega
    have lo1 : OgR RIx og (.slice av Ln cv) L V2 := (h.lo.kept h1 (fun g hg e => (h.op g hg).2 e)).nw hV2;obtain ⟨og', v', W, p1, p2, p3, p4⟩ := pushIx V2 og _ L lo1 hLl ⟨x, a1, m1, c1, a2, m2, c2⟩;exact ⟨og', v', W, p1, h.push hR h1 h2 h3 ⟨x, a1, m1, c1, a2, m2, c2⟩ rfl h4 h5 h7 hV2 p3 p2 p4⟩
  go_wp2_with fail
  go_at_call 13
  with_reducible refine HNX.out.mono ?_
  rintro e V (⟨a, E, rfl, K2⟩ | ⟨y, rfl, K2⟩)
  ·obtain ⟨c1, K3⟩ := K2;obtain ⟨W1, e1⟩ : ∃ W1, (V.alloc (.cells #[.string ⟨#[]⟩, .int .i64 0, .int .u32 0, .int .u32 0, .int .u32 0, .int .i64 0, .int .i32 0, .string ⟨#[]⟩, .string ⟨#[]⟩, .string ⟨#[]⟩, .int .i64 0, .int .u8 0, .int .i64 0, .int .u8 0, .int .i64 0, .int .i64 0, .int .i64 0, .int .i64 0, .int .i64 0, .bool false, .slice none 0 0, .slice none 0 0] 36)).setRow V.heap.size ziC = W1 := ⟨_, rfl⟩;have n1 : Nw V W1 := by rw [← e1]; exact ((Fr.refl _ _).alloc _).setRow _ _ (.inr (Nat.le_refl _))
   have c2 : W1.cell? ⟨w.heap.size, 1, none⟩ = some (.int .i64 (a : Nat)) := Nw.cell n1 c1;have HF : Hid (∀ U, Nw W1 U → P (.returned (.tuple #[.slice av Ln cv, .int .i64 (a : Nat), .int .i64 (E : Nat)])) U) := fun U hU => K3 _ (n1.trans hU)
   have HZ0 : Hid ((ziC : Array Value).all (·.oneCell') = true) := by show _ = _; simp [ziC, Value.oneCell']
   have E1 := tHid e1;clear e1 n1 K3 c1 HNX K H0;go_upto_region 5 with (first | (refine wpList_store_row rfl 36 _ _ rfl V.heap.size ziC (by first | rfl | simp [Act.eval]) (by first | rfl | simp [Act.eval]) 36 _ (newHeap _ _) ziI rfl HZ0.out ?_; rw [E1.out]) | fail)
   go_quiet (fail)
   go_wp2_with fail
   exact HF.out _ ((Fr.refl _ _).drewN _)
  ·obtain ⟨a, vG', G', hp1, hp2, K3⟩ := K2;obtain ⟨W1, e1⟩ : ∃ W1, (V.alloc (.cells #[.string ⟨#[]⟩, .int .i64 0, .int .u32 0, .int .u32 0, .int .u32 0, .int .i64 0, .int .i32 0, .string ⟨#[]⟩, .string ⟨#[]⟩, .string ⟨#[]⟩, .int .i64 0, .int .u8 0, .int .i64 0, .int .u8 0, .int .i64 0, .int .i64 0, .int .i64 0, .int .i64 0, .int .i64 0, .bool false, .slice none 0 0, .slice none 0 0] 36)).setRow V.heap.size y.C = W1 := ⟨_, rfl⟩;have n1 : Nw V W1 := by rw [← e1]; exact ((Fr.refl _ _).alloc _).setRow _ _ (.inr (Nat.le_refl _))
   have HROW : Hid (W1.heap[V.heap.size]? = some (.cells y.C 36)) := by rw [← e1]; exact setRow_heap _ _ _ _ 36 _ (newHeap _ _)
   obtain ⟨og', v', W, hap, K4⟩ := K3 W1 n1;obtain ⟨av', cv', ev', _, _⟩ := K4.lo.form;subst ev';obtain ⟨Ln', hLn'⟩ : ∃ Ln', (L ++ [y]).length = Ln' := ⟨_, rfl⟩;rw [hLn'] at K4 hap;have HK4 := tHid K4;have HAP := tHid hap;clear hLn' hap;have HONE : Hid (y.C.all (·.oneCell') = true) := by show _ = _; simp [Ix.C, icC, Value.oneCell']
   have E1 := tHid e1;clear e1 n1 K3 K4 HNX K H0
   go_wp2_with (first
    | (refine wpList_store_row rfl 36 _ _ rfl V.heap.size y.C (by first | rfl | simp [Act.eval]) (by first | rfl | simp [Act.eval]) 36 _ (newHeap _ _) ixI rfl HONE.out ?_; rw [E1.out])
    | (refine wpList_load_row rfl 36 _ rfl V.heap.size (by first | rfl | simp [Act.eval]) 36 _ (0, 0) _ HROW.out Tryz.underlying36 rfl ixI ?_)
    | (refine wpList_bsI rfl _ rfl y.C (by first | rfl | simp [Act.eval]) rfl ?_)
    | (at_builtin; refine Lib.wpList_append_run _ rfl _ _ 24 24 rfl (.slice av Ln cv) (.slice (some ⟨W1.heap.size, 0, none⟩) 1 1) (by first | rfl | simp [Act.eval]) (by first | rfl | simp [Act.eval]) _ _ (HAP.out _) ?_))
   go_roundg (gk - 512)
   case measure => omega
   case rel => exact ⟨_, a, vG', G', og', L ++ [y], rfl, by omega, hp2, HK4⟩
end Go.Proofs.YtlenihpbhlfcoaaGreatDoor
namespace Go.Proofs.YtlenihpbhlfcoaaGreatDoor
def hS : Hr := ⟨2, ⟨#[97]⟩, eS, 420, 0, 0, 3, 0, 48#8, eS, eS, eS, 0, 0⟩
theorem hS_ok : hS.Ok := by constructor <;> first | decide | (constructor <;> decide)
theorem hS_e : encE hS = 0 := by decide +kernel
def sS : List By := encR hS ++ [120#8, 121#8, 122#8] ++ List.replicate 509 0#8
def xS0 : It := ⟨⟨#[97]⟩, 2, 420, 0, 0, 0, 0, eS, eS, eS, 3, 0#8, 2, 48#8, 0, 0, 512, 1024, 3, false, [], []⟩
theorem sS_len : sS.length = 1024 := by kernel_rfl
theorem sS_dat : fd sS 512 3 = [120#8, 121#8, 122#8] := by kernel_rfl
theorem corS : cor sS [] ah0 = .got xS0 1024 := by kernel_rfl
theorem rdS : rdR sS 0 [] = ([xS0], 1024, 0, []) := by
 have h1 : nx sS 0 [] ah0 none = .more xS0 1024 [] := by rw [nx_got (show cor (sS.drop 0) [] ah0 = .got xS0 1024 from corS)]; rfl
 have h2 : cor (sS.drop 1024) [] ah0 = .fin := by rw [List.drop_eq_nil_of_le (by rw [sS_len]; omega)]; rfl
 rw [rdR_more h1, rdR_fin (nx_fin h2)]
theorem corS2 : cor (sS.take 1023) [] ah0 = .bad 1023 4 := by kernel_rfl
theorem rdS2 : rdR (sS.take 1023) 0 [] = ([], 1023, 4, []) := by
 have h1 : nx (sS.take 1023) 0 [] ah0 none = .bad 1023 4 [] := by rw [nx_bad (show cor ((sS.take 1023).drop 0) [] ah0 = .bad 1023 4 from corS2)]
 rw [rdR_bad h1]
end Go.Proofs.YtlenihpbhlfcoaaGreatDoor
namespace Go.Proofs.YtlenihpbhlfcoaaGreatDoor
open Go.RowKit
theorem app_zerosO (w : World) (g : Nat) (v : Value) (l : List By) (hO : Ow g v l w) (k : Nat) (hb : l.length + k ≤ 100000000000000) :
  ∃ v' g' W, (∀ ty, (Builtin.append_ #[22, 3] ty #[v, .int .i64 k]).run Tryz.prog w = .ok v' W) ∧ Ow g' v' (l ++ List.replicate k 0#8) W ∧ Fr (fun b => b = g) w W ∧ (g' = g ∨ w.heap.size ≤ g') := by
 obtain ⟨i, hi, hz, hs, hby⟩ := infoB;have hwk : IntKind.i64.wrap (k : Int) = (k : Int) := by rw [IntKind.wrap_i64]; omega
 have hk0 : ¬ ((k : Int) < 0) := by omega
 have hw0 : IntKind.i64.wrap 0 = 0 := by rw [IntKind.wrap_i64]; omega
 have hk48 : ¬ (281474976710656 < (k : Int) * (i.bytes : Int)) := by rw [hby]; omega
 have hO2 : Ow g v l w := hO;obtain ⟨xs, rfl, h2, h3, h4, h5⟩ := id hO2;by_cases hk : k = 0
 ·subst hk;refine ⟨.slice (some ⟨g, 0, none⟩) l.length xs.length, g, w, fun ty => ?_, ?_, Fr.refl _ _, .inl rfl⟩
  ·have hst : (storeCells ⟨g, l.length, none⟩ []).run Tryz.prog w = .ok () w := rfl;simp [Builtin.append_, run_underlying Tryz.underlying22, run_underlying Tryz.underlying3, sizeOf, typeInfo, hi, hs, asInt, asIntOf, hw0, h3, Addr.add_lit, hst]
  ·rw [List.replicate_zero, List.append_nil]; exact hO2
 ·by_cases hroom : l.length + k ≤ xs.length
  ·have hst := run_storeCells_at (P := Tryz.prog) g (0 + l.length) 5 ((List.replicate k 0#8).map bv) 0 (xs.map bv).toArray w h5 (by simp; omega) (bv_one _);refine ⟨.slice (some ⟨g, 0, none⟩) (l.length + k) xs.length, g, w.setRow g (((l ++ List.replicate k 0#8 ++ xs.drop (l.length + k)).map bv).toArray), fun ty => ?_, ?_, ?_, .inl rfl⟩
   ·obtain ⟨W0, hW0⟩ : ∃ W0, W0 = w.setRow g (((l ++ List.replicate k 0#8 ++ xs.drop (l.length + k)).map bv).toArray) := ⟨_, rfl⟩;have hst' : (storeCells ⟨g, l.length, none⟩ ((List.replicate k 0#8).map bv)).run Tryz.prog w = .ok () W0 := by
     rw [← Nat.zero_add l.length, hst, hW0];congr 3;simp only [Nat.add_zero, Nat.zero_add, List.length_map, List.length_replicate];rw [← List.map_take, ← List.map_drop, h2];simp
    rw [← hW0];clear hst;have hzl : (Builtin.zeroCells (Value.int .u8 0).cells k).toList = (List.replicate k 0#8).map bv := by rw [zeroB]
    rw [List.map_replicate] at hst';have hns : ¬ (k * i.size = 0) := by rw [hs]; omega
    have hns1 : ¬ (k * 1 = 0) := by omega
    have hneed : l.length + k ≤ xs.length := hroom;rw [hs] at hns;have hb1 : ¬ (281474976710656 < (k : Int)) := by omega
    simp [Builtin.append_, run_underlying Tryz.underlying22, run_underlying Tryz.underlying3, sizeOf, typeInfo, zeroValue, asInt, asIntOf, hwk, hk0, hb1, hi, hs, hby, hz, hk, hneed, Addr.add_lit, hzl, hst']
   ·have hl : (l ++ List.replicate k 0#8).length = l.length + k := by simp
    refine ⟨l ++ List.replicate k 0#8 ++ xs.drop (l.length + k), ?_, ?_, ?_, ?_, ?_⟩
    ·simp; omega
    ·rw [List.take_append_of_le_length (by simp), List.take_of_length_le (by simp)]
    ·simp
    ·simp; omega
    ·exact setRow_heap w g _ _ 5 _ h5
   ·exact (Fr.refl _ _).setRow _ _ (.inl rfl)
  ·have hold : (Builtin.firstCells i.size l.length (.slice (some ⟨g, 0, none⟩) l.length xs.length)).run Tryz.prog w.drew = .ok (l.map bv).toArray w.drew := by
    rw [hs];refine run_firstCells_some w.drew 1 l.length ⟨g, 0, none⟩ l.length xs.length (l.map bv) (by simp) (fun j u hj => ?_);rw [add_addr];simp only [List.getElem?_map, Option.map_eq_some_iff] at hj;obtain ⟨b, hb, rfl⟩ := hj;have hr := h5.rd.take l.length;rw [h2] at hr;exact hr.at j b hb
   have hrun := fun ty => Lib.run_append_grow_zeros (P := Tryz.prog) w 22 3 ty 5 i _ .i64 .i64 Tryz.underlying22 Tryz.underlying3 hi hz (some ⟨g, 0, none⟩) l.length xs.length _ hold k (by omega) (by omega) (by omega) (by omega) (by rw [hby]; omega) (by rw [hby]; exact growslice_fits_wide (by omega) (by omega))
   have hge := grownCap_ge w (l.length + k) xs.length 5;have hle := grownCap_le_maxLen w (l.length + k) xs.length 5 (by unfold maxLen; omega);unfold maxLen at hle;generalize grownCap w (l.length + k) xs.length 5 = G at *;refine ⟨_, w.heap.size, _, hrun, ?_, Nw.any ((Fr.refl _ _).drew.alloc _), .inr (Nat.le_refl _)⟩;have e : ((l.map bv).toArray ++ Builtin.zeroCells (Value.int .u8 0).cells k ++ Builtin.zeroCells (Value.int .u8 0).cells (G - (l.length + k))) = ((l ++ List.replicate k 0#8 ++ List.replicate (G - (l.length + k)) 0#8).map bv).toArray := by
    rw [zeroB, zeroB]; simp
   rw [e];refine ⟨l ++ List.replicate k 0#8 ++ List.replicate (G - (l.length + k)) 0#8, ?_, ?_, ?_, ?_, ?_⟩
   ·simp; omega
   ·rw [List.take_append_of_le_length (by simp), List.take_of_length_le (by simp)]
   ·simp
   ·simp; omega
   ·show (w.drew.heap.push _)[w.heap.size]? = _;show (w.heap.push _)[w.heap.size]? = _;simp
theorem encS_len : (encR hS).length = 512 := by kernel_rfl
theorem bysXyz : bys ⟨#[120, 121, 122]⟩ = [120#8, 121#8, 122#8] := by kernel_rfl
theorem sample_chain (V : World) (t : Nat) (hrow : V.heap[t]? = some (.cells (rc (encR hS)) 58)) : ∃ v1 W1 v2 W2 g a c W3,
  Hid (∀ ty, (Builtin.append_ #[22, 22] ty #[.slice (some ⟨V.heap.size, 0, none⟩) 0 0, .slice (some ⟨t, 0, none⟩) 512 512]).run Tryz.prog (V.alloc (.cells #[] 5)) = .ok v1 W1) ∧
  Hid (∀ ty, (Builtin.append_ #[22, 9] ty #[v1, .string ⟨#[120, 121, 122]⟩]).run Tryz.prog W1 = .ok v2 W2) ∧
  Hid (∀ ty, (Builtin.append_ #[22, 3] ty #[v2, .int .i64 509]).run Tryz.prog W2 = .ok (.slice a 1024 c) W3) ∧ Nw V W3 ∧ Ow g (.slice a 1024 c) sS W3 ∧ V.heap.size ≤ g ∧ (∃ o n, v1 = .slice (some o) 512 n) ∧ ∃ o n, v2 = .slice (some o) 515 n := by
 have hN0 : Nw V (V.alloc (.cells #[] 5)) := (Fr.refl _ _).alloc _;have hl := encS_len;have hs : Sl (fun _ => False) (.slice (some ⟨t, 0, none⟩) 512 512) (encR hS) (V.alloc (.cells #[] 5)) := by
  refine .inr ⟨t, fun h => h, 0, 512, by rw [hl], by rw [hl]; exact Nat.le_refl _, by omega, fun j hj => ?_⟩;rw [Nat.zero_add];refine cell_of (Nw.heap hN0 hrow) j _ ?_;unfold rc;simp [hj]
 obtain ⟨v1, g1, W1, a1, o1, f1, d1⟩ := app_any _ _ _ [] (Ow.empty V) _ (encR hS) hs (by simp [hl]);rw [List.nil_append] at o1;obtain ⟨v2, g2, W2, a2, o2, f2, d2⟩ := app_str W1 g1 v1 _ o1 ⟨#[120, 121, 122]⟩ (by rw [hl]; decide);rw [bysXyz] at o2;obtain ⟨v3, g3, W3, a3, o3, f3, d3⟩ := app_zerosO W2 g2 v2 _ o2 509 (by rw [List.length_append, hl]; decide);have o3' : Ow g3 v3 sS W3 := o3;have hN1 : Nw V W1 := hN0.then f1 (fun i hi => .inr (by omega));have g1l : V.heap.size ≤ g1 := by
  have : (V.alloc (.cells #[] 5)).heap.size = V.heap.size + 1 := by simp
  rcases d1 with e | e <;> omega
 have s1 := hN1.size;have hN2 : Nw V W2 := hN1.then f2 (fun i hi => .inr (by omega));have g2l : V.heap.size ≤ g2 := by rcases d2 with e | e <;> omega
 have s2 := hN2.size;have hN3 : Nw V W3 := hN2.then f3 (fun i hi => .inr (by omega));have g3l : V.heap.size ≤ g3 := by rcases d3 with e | e <;> omega
 obtain ⟨x1, e1, _⟩ := id o1;obtain ⟨x2, e2, _⟩ := id o2;obtain ⟨x3, e3, _⟩ := id o3';rw [hl] at e1;have l2 : (encR hS ++ [120#8, 121#8, 122#8]).length = 515 := by rw [List.length_append, hl]; rfl
 rw [l2] at e2;rw [sS_len] at e3;subst e1 e2 e3;exact ⟨_, W1, _, W2, g3, _, _, W3, a1, a2, a3, hN3, o3', g3l, ⟨_, _, rfl⟩, ⟨_, _, rfl⟩⟩
theorem sample_any (w : World) : Calls Tryz.prog 16 #[] w fun e w' => ∃ a c g, e = .returned (.slice a 1024 c) ∧ Hid (Nw w w' ∧ Ow g (.slice a 1024 c) sS w' ∧ w.heap.size ≤ g) := by
 refine asP fun P hP => ?_
 obtain ⟨CH, hCH⟩ : ∃ CH, hS.C = CH := ⟨_, rfl⟩;obtain ⟨CR, hCR⟩ : ∃ CR, rc (encR hS) = CR := ⟨_, rfl⟩;have HE : Hid (∀ V, Calls Tryz.prog 21 #[.agg CH] V fun e w' => e = .returned (.tuple #[.agg CR, .int .i64 0]) ∧ Nw V w') := fun V => by
  rw [← hCH, ← hCR];have := encode_any hS hS_ok V;rw [hS_e] at this;exact this
 have HB : Hid (Tryz.prog.built 62 [(0, .int .i64 2), (1, .string ⟨#[97]⟩), (3, .int .i64 420), (6, .int .i64 3), (8, .int .u8 48)] = some CH) := by
  show _ = _;rw [← hCH]
  kernel_rfl
 have HRI : Hid ((Tryz.prog.info? 58).map (·.size) = some CR.size) := by rw [← hCR]; exact rc_info _ encS_len
 have HRZ : Hid ((Tryz.zeroCells58 : Array Value).size = CR.size) := by rw [← hCR, zrec_rc, rc_size, rc_size, zrec_length]; exact encS_len.symm
 have HR1 : Hid (CR.all (·.oneCell') = true) := by rw [← hCR]; exact rc_one _
 have HCH : Hid (∀ V, Nw w V → ∃ W2, (V.alloc (.cells Tryz.zeroCells58 58)).setRow V.heap.size CR = W2 ∧ ∃ v1 W3 v2 W4 g a c W5,
  Hid (∀ ty, (Builtin.append_ #[22, 22] ty #[.slice (some ⟨W2.heap.size, 0, none⟩) 0 0, .slice (some ⟨V.heap.size, 0, none⟩) 512 512]).run Tryz.prog (W2.alloc (.cells #[] 5)) = .ok v1 W3) ∧
  Hid (∀ ty, (Builtin.append_ #[22, 9] ty #[v1, .string ⟨#[120, 121, 122]⟩]).run Tryz.prog W3 = .ok v2 W4) ∧
  Hid (∀ ty, (Builtin.append_ #[22, 3] ty #[v2, .int .i64 509]).run Tryz.prog W4 = .ok (.slice a 1024 c) W5) ∧ (∃ o n, v1 = .slice (some o) 512 n) ∧ (∃ o n, v2 = .slice (some o) 515 n) ∧ Hid (P (.returned (.slice a 1024 c)) W5)) := fun V hV => by
  have n2 : Nw V ((V.alloc (.cells Tryz.zeroCells58 58)).setRow V.heap.size CR) := ((Fr.refl _ _).alloc _).setRow _ _ (.inr (Nat.le_refl _));have hrow : ((V.alloc (.cells Tryz.zeroCells58 58)).setRow V.heap.size CR).heap[V.heap.size]? = some (.cells (rc (encR hS)) 58) := by rw [hCR]; exact setRow_heap _ _ _ _ 58 _ (newHeap _ _)
  obtain ⟨v1, W3, v2, W4, g, a, c, W5, q1, q2, q3, q4, q5, q6, q7, q8⟩ := sample_chain _ V.heap.size hrow;refine ⟨_, rfl, v1, W3, v2, W4, g, a, c, W5, q1, q2, q3, q7, q8, ?_⟩;rw [hP];have s1 := hV.size;have s2 := n2.size;exact ⟨a, c, g, rfl, (hV.trans n2).trans q4, q5, by omega⟩
 clear hP hCH hCR;go_enter Tryz.func16, Tryz.ntmps16
 go_wp2_with (first
  | (refine wpList_buildTo rfl 62 _ rfl _ rfl CH (Eq.trans (congrArg (Program.built Tryz.prog 62) (by kernel_rfl)) HB.out) ?_)
  | fail)
 go_at_call 21
 with_reducible refine (HE.out _).mono ?_
 rintro e V ⟨rfl, hV⟩;obtain ⟨W2, e2, v1, W3, v2, W4, g, a, c, W5, q1, q2, q3, ⟨o1, m1, rfl⟩, ⟨o2, m2, rfl⟩, HF⟩ := HCH.out V hV;have E2 := tHid e2;clear HE HB HCH hV e2
 go_wp2_with (first
  | (refine wpList_store_row rfl 58 _ _ rfl V.heap.size CR (by first | rfl | simp [Act.eval]) (by first | rfl | simp [Act.eval]) 58 _ (newHeap _ _) HRI.out HRZ.out HR1.out ?_; rw [E2.out])
  | (at_builtin; refine Lib.wpList_append_run _ rfl _ _ 22 22 rfl (.slice (some ⟨W2.heap.size, 0, none⟩) 0 0) (.slice (some ⟨V.heap.size, 0, none⟩) 512 512) (by first | rfl | simp [Act.eval]) (by first | rfl | simp [Act.eval]) _ _ (q1.out _) ?_)
  | (at_builtin; refine Lib.wpList_append_run _ rfl _ _ 22 9 rfl (.slice (some o1) 512 m1) (.string ⟨#[120, 121, 122]⟩) (by first | rfl | simp [Act.eval]) (by first | rfl | simp [Act.eval]) _ _ (q2.out _) ?_)
  | (at_builtin; refine Lib.wpList_append_run _ rfl _ _ 22 3 rfl (.slice (some o2) 515 m2) (.int .i64 509) (by first | rfl | simp [Act.eval]) (by first | rfl | simp [Act.eval]) _ _ (q3.out _) ?_))
 exact HF.out
end Go.Proofs.YtlenihpbhlfcoaaGreatDoor
