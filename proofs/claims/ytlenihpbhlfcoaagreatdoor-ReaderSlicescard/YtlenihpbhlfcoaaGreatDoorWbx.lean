import Derived.Test.YtlenihpbhlfcoaaGreatDoorWbw
import Derived.Deep.SlicePairs
set_option maxHeartbeats 8000000
set_option maxRecDepth 100000
set_option linter.unusedSimpArgs false
set_option linter.unusedVariables false
namespace Go.Proofs.YtlenihpbhlfcoaaGreatDoor
open Go.RowKit Go.Deep
theorem Ow.pre {g n c : Nat} {a : Option Addr} {l : List By} {W : World} (h : Ow g (.slice a n c) l W) (k : Nat) (hk : k ≤ l.length) : Old W (.slice a k c) (l.take k) := by
 have hlt := h.lt;obtain ⟨o, c', e, h1, h2, h3⟩ := h.slb;injection e with e1 e2 e3;subst e1 e3;exact .inr ⟨g, by omega, o, c, by rw [List.length_take, Nat.min_eq_left hk], by rw [List.length_take]; omega, h2, h3.take k⟩
theorem reS {V V' : World} {e : Ending} (h : ReA sS V e V') : ∃ (y : Ix) (gl cl : Nat), e = .returned (.tuple #[.slice (some ⟨gl, 0, none⟩) 1 cl, .int .i64 1024, .int .i64 0]) ∧ Hid (y.x = xS0 ∧ Nw V V' ∧ 1 ≤ cl ∧ OwR RIx gl (.slice (some ⟨gl, 0, none⟩) 1 cl) [y] V' ∧ IxW (fun k => k < V.heap.size) y V') := by
 obtain ⟨L, v, a, E, G, hr, rfl, hn, og, lo, hop, hit⟩ := h;rw [rdS] at hr;simp only [Prod.mk.injEq] at hr;obtain ⟨h1, h2, h3, h4⟩ := hr;subst h2 h3;rcases L with _ | ⟨y, _ | ⟨z, r⟩⟩
 ·simp at h1
 ·simp only [List.map_cons, List.map_nil, List.cons.injEq, and_true] at h1;cases og with
  | none => exact absurd lo.2 (by simp)
  | some g =>
   have lo' : OwR RIx g v [y] V' := lo;obtain ⟨c, rfl, hc, _⟩ := lo'.form;exact ⟨y, g, c, rfl, h1.symm, hn, hc, lo', (hit y (by simp)).mono (fun k hk => .inr (.inl hk))⟩
 ·have := congrArg List.length h1;simp at this
theorem reS2 {V V' : World} {e : Ending} (h : ReA (sS.take 1023) V e V') : ∃ (a2 : Option Addr) (c2 : Nat), e = .returned (.tuple #[.slice a2 0 c2, .int .i64 1023, .int .i64 4]) ∧ Hid (Nw V V') := by
 obtain ⟨L, v, a, E, G, hr, rfl, hn, og, lo, hop, hit⟩ := h;rw [rdS2] at hr;simp only [Prod.mk.injEq] at hr;obtain ⟨h1, h2, h3, h4⟩ := hr;subst h2 h3;have : L = [] := by cases L <;> simp_all
 subst this;obtain ⟨a', c', rfl, _⟩ := lo.form;exact ⟨a', c', rfl, hn⟩
theorem ixS (y : Ix) (h : y.x = xS0) : y.C = #[.string ⟨#[97]⟩, .int .i64 2, .int .u32 420, .int .u32 0, .int .u32 0, .int .i64 0, .int .i32 0, .string ⟨#[]⟩, .string ⟨#[]⟩, .string ⟨#[]⟩, .int .i64 3, .int .u8 0, .int .i64 2, .int .u8 48, .int .i64 0, .int .i64 0, .int .i64 512, .int .i64 1024, .int .i64 3, .bool false, .slice y.ma y.mn y.mc, .slice y.pa y.pn y.pc] := by
 unfold Ix.C;rw [h];rfl
theorem lives16_any (w : World) (hE : Env w) : Calls Tryz.prog 8 #[] w fun e w' => e = .returned (.bool true) ∧ Nw w w' := by
 refine asP fun P hP => ?_
 have HP : Hid (∀ V, Nw w V → P (.returned (.bool true)) V) := fun V hV => by rw [hP]; exact ⟨rfl, hV⟩
 have HE := tHid hE;have HS := tHid (sample_any w);clear hP hE;go_enter Tryz.func8, Tryz.ntmps8
 go_wp2_with fail
 go_at_call 16
 with_reducible refine HS.out.mono ?_
 rintro e V1 ⟨a, c, g, rfl, K1⟩;obtain ⟨n1, ow, hg⟩ := K1;have hlc : 1024 ≤ c := by
  obtain ⟨o, c', e, h1, _⟩ := ow.slb;injection e with e1 e2 e3;rw [sS_len] at h1;omega
 have hcc : c < 9223372036854775808 := by
  obtain ⟨o, c', e, _, h2, _⟩ := ow.slb;injection e with e1 e2 e3;omega
 have H1 : Hid (Calls Tryz.prog 9 #[.slice a 1024 c] V1 fun e V' => ∃ (y : Ix) (gl cl : Nat), e = .returned (.tuple #[.slice (some ⟨gl, 0, none⟩) 1 cl, .int .i64 1024, .int .i64 0]) ∧ Hid (y.x = xS0 ∧ Nw V1 V' ∧ 1 ≤ cl ∧ OwR RIx gl (.slice (some ⟨gl, 0, none⟩) 1 cl) [y] V' ∧ IxW (fun k => k < V1.heap.size) y V')) := by
  have hold : Old V1 (.slice a sS.length c) sS := by rw [sS_len]; exact ow.old
  have := qRead_any V1 a c sS hold (by rw [sS_len]; omega) (HE.out.nw n1);rw [sS_len] at this;exact this.mono fun e V' h => reS h
 have H2 : Hid (∀ V, Nw V1 V → Calls Tryz.prog 9 #[.slice a 1023 c] V fun e V' => ∃ (a2 : Option Addr) (c2 : Nat), e = .returned (.tuple #[.slice a2 0 c2, .int .i64 1023, .int .i64 4]) ∧ Hid (Nw V V')) := fun V hV => by
  have hl : (sS.take 1023).length = 1023 := by rw [List.length_take, sS_len]; rfl
  have hold : Old V (.slice a (sS.take 1023).length c) (sS.take 1023) := by rw [hl]; exact (ow.nw hV).pre 1023 (by rw [sS_len]; omega)
  have := qRead_any V a c (sS.take 1023) hold (by rw [hl]; omega) (HE.out.nw (n1.trans hV));rw [hl] at this;exact this.mono fun e V' h => reS2 h
 have OW := tHid ow;have N1 := tHid n1;have hlci : (1023 : Int) ≤ (c : Int) := by omega
 clear ow n1 hg HS
 go_wp2_with fail
 go_at_call 9
 with_reducible refine H1.out.mono ?_
 rintro e V2 ⟨y, gl, cl, rfl, K2⟩
 go_wp2_with fail
 go_at_call 9
 with_reducible refine (H2.out _ K2.out.2.1).mono ?_
 rintro e V3 ⟨a2, c2, rfl, K3⟩;obtain ⟨hy, n2, hcl, lo, iw⟩ := K2;have n3 : Nw V2 V3 := K3;have lo3 := lo.nw n3;have iw3 := iw.nw n3;obtain ⟨CY, hCY⟩ : ∃ CY, y.C = CY := ⟨_, rfl⟩;have hCX := ixS y hy;obtain ⟨CL, hCL⟩ : ∃ CL, CY.toList = CL := ⟨_, rfl⟩;have hRG : Hid (V3.rangeAt gl 0 CL) := by
  intro j v hv;rw [← hCL] at hv;have := (lo3.cell rixOk 0 j y v rfl (by rw [← hCY] at hv; exact hv)).1;rw [Nat.zero_mul] at this;exact this
 have HSZ : Hid ((Tryz.prog.info? 36).map (·.size) = some CL.length) := by rw [← hCL, ← hCY]; exact ixI
 have HSZ2 : Hid ((Tryz.prog.info? 36).map (·.size) = some CY.size) := by rw [← hCY]; exact ixI
 have HON : Hid (CY.all (·.oneCell') = true) := by rw [← hCY]; show _ = _; simp [Ix.C, icC, Value.oneCell']
 have HTA : Hid (CL.toArray = CY) := by rw [← hCL]; exact Array.toArray_toList
 clear hCL;rw [hCY] at hCX;have HCX := tHid hCX;clear hCX;have HCT : Hid (Calls Tryz.prog 10 #[.slice a 1024 c, .agg CY] V3 fun e w' => ∃ a' c', e = .returned (.tuple #[.slice a' 3 c', .int .i64 0]) ∧ (∀ U, Nw w' U → (convert 22 9 (.slice a' 3 c')).run Tryz.prog U = .ok (.string ⟨#[120, 121, 122]⟩) U) ∧ Hid (Nw V3 w')) := by
  have hold : Old V3 (.slice a 1024 c) sS := ((OW.out.nw n2).nw n3).old;have hc := qContent_ok V3 a 1024 c sS hold (by omega) CY (by rw [← hCY]; exact ixI) y.ma y.mn y.mc y.x.map 3 512 3 false (by rw [HCX.out]; rfl) (by rw [HCX.out]; rfl) (by rw [HCX.out]; rfl) (by rw [HCX.out]; rfl) (by rw [HCX.out]; rfl) (by rw [HCX.out]; rfl) iw3.m ⟨by omega, by omega⟩ (by omega) (by omega) (fun _ => rfl);refine hc.mono fun e w' h => ?_
  rcases h with ⟨_, a', c', rfl, n4, mn⟩ | ⟨h, _⟩
  ·refine ⟨a', c', rfl, fun U hU => ?_, n4⟩;rw [sS_dat] at mn;have hs : Sl (fun _ => False) (.slice a' 3 c') [120#8, 121#8, 122#8] U := by
    rcases mn with ⟨e1, e2⟩ | ⟨g4, _, o4⟩
    ·cases e2
    ·exact .inr ⟨g4, fun h => h, (o4.nw hU).slb⟩
   have := conv_any hs;exact this
  ·cases h
 have HN : Hid (Nw w V3) := (N1.out.trans n2).trans n3;clear H1 H2 lo lo3 iw iw3 n2 n3 K3 hy
 go_wp2_with (first
  | (refine wpList_load_mid rfl 36 _ rfl gl 0 (by first | rfl | simp [Act.eval]) CL _ hRG.out Tryz.underlying36 rfl HSZ.out ?_; rw [HTA.out])
  | fail)
 go_at_call 10
 with_reducible refine HCT.out.mono ?_
 rintro e V4 ⟨a4, c4, rfl, hcv, K4⟩;have hRG4 : Hid (V4.rangeAt gl 0 CL) := fun j v hv => Nw.cell K4.out (hRG.out j v hv)
 obtain ⟨W1, e1⟩ : ∃ W1, (V4.alloc (.cells #[.string ⟨#[]⟩, .int .i64 0, .int .u32 0, .int .u32 0, .int .u32 0, .int .i64 0, .int .i32 0, .string ⟨#[]⟩, .string ⟨#[]⟩, .string ⟨#[]⟩, .int .i64 0, .int .u8 0, .int .i64 0, .int .u8 0, .int .i64 0, .int .i64 0, .int .i64 0, .int .i64 0, .int .i64 0, .bool false, .slice none 0 0, .slice none 0 0] 36)).setRow V4.heap.size CY = W1 := ⟨_, rfl⟩;have n1 : Nw V4 W1 := by rw [← e1]; exact ((Fr.refl _ _).alloc _).setRow _ _ (.inr (Nat.le_refl _))
 have rw1 : W1.heap[V4.heap.size]? = some (.cells CY 36) := by rw [← e1]; exact setRow_heap _ _ _ _ 36 _ (newHeap _ _)
 have HZ : Hid ((ziC : Array Value).size = CY.size) := Option.some.inj (ziI.symm.trans HSZ2.out);have hcv1 := hcv W1 n1;have d0 : W1.cell? ⟨V4.heap.size, 0, none⟩ = some (.string ⟨#[97]⟩) := cell_of rw1 0 _ (by rw [HCX.out]; rfl);have d1 : W1.cell? ⟨V4.heap.size, 1, none⟩ = some (.int .i64 2) := cell_of rw1 1 _ (by rw [HCX.out]; rfl);have d10 : W1.cell? ⟨V4.heap.size, 10, none⟩ = some (.int .i64 3) := cell_of rw1 10 _ (by rw [HCX.out]; rfl);have d16 : W1.cell? ⟨V4.heap.size, 16, none⟩ = some (.int .i64 512) := cell_of rw1 16 _ (by rw [HCX.out]; rfl)
 have d17 : W1.cell? ⟨V4.heap.size, 17, none⟩ = some (.int .i64 1024) := cell_of rw1 17 _ (by rw [HCX.out]; rfl);have E1 := tHid e1;have HF : Hid (P (.returned (.bool true)) W1) := HP.out W1 ((HN.out.trans K4.out).trans n1);clear e1 n1 rw1 hcv hCY HCT HN HP HE OW N1 hRG HCX
 go_wp2_with (first
  | (refine wpList_load_mid rfl 36 _ rfl gl 0 (by first | rfl | simp [Act.eval]) CL _ hRG4.out Tryz.underlying36 rfl HSZ.out ?_; rw [HTA.out])
  | (refine wpList_store_row rfl 36 _ _ rfl V4.heap.size CY (by first | rfl | simp [Act.eval]) (by first | rfl | simp [Act.eval]) 36 _ (newHeap _ _) HSZ2.out HZ.out HON.out ?_; rw [E1.out])
  | fail)
 exact HF.out
theorem copyR (V : World) (x : Value) (l : List By) (hx : Sl (fun _ => False) x l V) (hl : l.length ≤ 200000000000000) : ∃ g c W, Hid (∀ ty, (Builtin.append_ #[22, 22] ty #[.slice (some ⟨V.heap.size, 0, none⟩) 0 0, x]).run Tryz.prog (V.alloc (.cells #[] 5)) = .ok (.slice (some ⟨g, 0, none⟩) l.length c) W) ∧ Ow g (.slice (some ⟨g, 0, none⟩) l.length c) l W ∧ V.heap.size ≤ g ∧ Nw V W := by
 have hN0 : Nw V (V.alloc (.cells #[] 5)) := (Fr.refl _ _).alloc _;obtain ⟨v1, g1, W1, a1, o1, f1, d1⟩ := app_any _ _ _ [] (Ow.empty V) x l (hx.nw hN0) (by simp; omega);rw [List.nil_append] at o1;have hs : (V.alloc (.cells #[] 5)).heap.size = V.heap.size + 1 := by simp
 obtain ⟨x1, e1, _⟩ := id o1;subst e1;exact ⟨g1, _, W1, a1, o1, by rcases d1 with e | e <;> omega, hN0.then f1 (fun i hi => .inr (by omega))⟩
theorem reF {b : List By} {V V' : World} {e : Ending} (h : ReA b V e V') : ∃ (Ln : Nat) (av : Option Addr) (cv a E : Nat), e = .returned (.tuple #[.slice av Ln cv, .int .i64 (a : Nat), .int .i64 (E : Nat)]) ∧ Hid (∃ (L : List Ix) (G : List Pr), L.length = Ln ∧ rdR b 0 [] = (L.map (·.x), a, E, G) ∧ Nw V V' ∧ Ln ≤ cv ∧ cv < 9223372036854775808 ∧ ∃ og, OgR RIx og (.slice av Ln cv) L V' ∧ (∀ g, og = some g → V.heap.size ≤ g) ∧ ∀ y ∈ L, IxW (fun k => og = some k ∨ k < V.heap.size ∨ V'.heap.size ≤ k) y V') := by
 obtain ⟨L, v, a, E, G, hr, rfl, hn, og, lo, hop, hit⟩ := h;obtain ⟨av, cv, rfl, h1, h2⟩ := lo.form;exact ⟨L.length, av, cv, a, E, rfl, L, G, rfl, hr, hn, h1, h2, og, lo, hop, hit⟩
end Go.Proofs.YtlenihpbhlfcoaaGreatDoor
namespace Go.Proofs.YtlenihpbhlfcoaaGreatDoor
open Go.ChangeShapes Go.WideShapes Go.ChangeAt Go.RowKit Go.Deep
theorem cells5 : Tryz.prog.cellsOf 5 = 1 := by kernel_rfl
theorem bytes5 : Tryz.prog.bytesOf 5 = 1 := by kernel_rfl
theorem own : ownKnob Tryz.prog.godebug = none := by kernel_rfl
theorem laidOut : laidOutB Tryz.prog = true := by kernel_rfl
theorem byte_of {n : Int} (h : (Lit.int .u8 n).wf = true) : (.int .u8 n : Value) = .int .u8 (BitVec.ofNat 8 n.toNat).toNat := by
 have hb : 0 ≤ n ∧ n < 256 := by
  simp [Lit.wf, IntKind.bits, IntKind.signed, IntKind.min, IntKind.max] at h;omega
 congr 1
 rw [BitVec.toNat_ofNat]; omega
theorem openedB {H : Type} {enc : TypeId × Value → H} {W : World} {a : Option Addr} {len cap : Nat} {d : DataW H} {p : List MemPlace} (h : DataW.Trod enc Tryz.prog W 0 (fun _ => true) true 22 (.slice a len cap) d p) :
  ∃ l : List By, Sl (fun k => W.heap.size ≤ k) (.slice a len cap) l W ∧ l.length = len ∧ (len = 0 ∨ ∃ e s, d = .slice e s ∧ e.length = len) := by
 obtain ⟨fuel, hf⟩ := h;rcases open_ints (k := .u8) Tryz.underlying22 Tryz.underlying5 cells5 hf with ⟨hcs, _⟩ | ⟨x, l, c, zs, hcs, _, hl, hm, hz, hd, hc, hw⟩
 ·simp [Value.cells] at hcs;obtain ⟨rfl, rfl, rfl⟩ := hcs;exact ⟨[], .inl ⟨none, rfl, rfl⟩, rfl, .inl rfl⟩
 ·simp [Value.cells] at hcs;obtain ⟨rfl, rfl, rfl⟩ := hcs;simp only [if_true] at hz;have hlen : ((zs.take len).map (fun n => BitVec.ofNat 8 n.toNat)).length = len := by simp; omega
  refine ⟨(zs.take len).map (fun n => BitVec.ofNat 8 n.toNat), ?_, hlen, .inr ⟨_, _, (Prod.ext_iff.1 hd).1, by simp [lits]; omega⟩⟩;by_cases h0 : cap = 0
  ·subst h0;obtain rfl : len = 0 := by omega
   exact .inl ⟨_, rfl, by simp⟩
  ·obtain ⟨b, off, spot⟩ := x;have hc0 := hc 0 (by omega);have hspot : spot = none := by simpa [Addr.add] using World.cell?_spot hc0
   subst hspot;have hb : b < W.heap.size := by have := World.block_lt_of_cell? _ _ hc0; simpa [Addr.add] using this
   refine .inr ⟨b, by omega, off, cap, by rw [hlen], by rw [hlen]; exact hl, by unfold maxLen at hm; omega, ?_⟩;intro j hj;rw [hlen] at hj;have hcj := hc j (by omega);rw [add_plain] at hcj;rw [hcj];simp only [List.getElem_map, List.getElem_take];have hmem : zs.getD j 0 ∈ zs := by
    rw [List.getD_eq_getElem?_getD, List.getElem?_eq_getElem (show j < zs.length by omega)]; simp
   rw [byte_of (hw _ hmem)];simp [List.getD_eq_getElem?_getD, List.getElem?_eq_getElem (show j < zs.length by omega)]
end Go.Proofs.YtlenihpbhlfcoaaGreatDoor
