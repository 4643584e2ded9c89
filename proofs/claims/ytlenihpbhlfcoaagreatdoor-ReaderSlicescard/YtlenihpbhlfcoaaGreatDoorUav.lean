import Derived.Laws.EntriesVeiled
import Derived.Test.YtlenihpbhlfcoaaGreatDoorUau
set_option maxHeartbeats 8000000
set_option maxRecDepth 100000
set_option linter.unusedSimpArgs false
set_option linter.unusedVariables false
namespace Go.Proofs.YtlenihpbhlfcoaaGreatDoor
open Go.RowKit
def HcH (g : Nat) (h : Hr) (w : World) : Prop := w.heap[g]? = some (.cells h.C 62)
structure TRow (h : Hr) (I o n sl k : Nat) (φ : FuncId) (s : ByteArray) : Prop where
 t : tF[I]? = some (o, n)
 ts : h.ts[I]? = some (o, n, s)
 hsl : sT[I]? = some sl
 hk : kT[I]? = some k
 x0 : tX[I * 3]? = some (.int .i64 (o : Nat))
 x1 : tX[I * 3 + 1]? = some (.int .i64 (n : Nat))
 x2 : tX[I * 3 + 2]? = some (.func (.func φ) #[] #[])
 says : ∀ (g : Nat) (w : World), Calls Tryz.prog φ #[.pointer (some ⟨g, 0, none⟩)] w fun e w' => e = .returned (.pointer (some ⟨g, sl, none⟩)) ∧ w' = w
 cell : h.C[sl]? = some (.string s)
 ent : Enters Tryz.prog φ
 n0 : 0 < n
 on : o + n ≤ 512
theorem trow (h : Hr) (I : Nat) (hI : I < 5) : ∃ o n sl k φ s, TRow h I o n sl k φ s := by
 rcases five hI with rfl | rfl | rfl | rfl | rfl
 ·exact ⟨0, 100, 1, 0, 65, h.name, rfl, rfl, rfl, rfl, rfl, rfl, rfl, tx1_any, rfl, enters_of Tryz.func65 (by decide) rfl, by omega, by omega⟩
 ·exact ⟨157, 100, 9, 8, 66, h.link, rfl, rfl, rfl, rfl, rfl, rfl, rfl, tx2_any, rfl, enters_of Tryz.func66 (by decide) rfl, by omega, by omega⟩
 ·exact ⟨265, 32, 10, 10, 67, h.user, rfl, rfl, rfl, rfl, rfl, rfl, rfl, tx3_any, rfl, enters_of Tryz.func67 (by decide) rfl, by omega, by omega⟩
 ·exact ⟨297, 32, 11, 11, 68, h.group, rfl, rfl, rfl, rfl, rfl, rfl, rfl, tx4_any, rfl, enters_of Tryz.func68 (by decide) rfl, by omega, by omega⟩
 ·exact ⟨345, 155, 2, 14, 69, h.pfx, rfl, rfl, rfl, rfl, rfl, rfl, rfl, tx5_any, rfl, enters_of Tryz.func69 (by decide) rfl, by omega, by omega⟩
structure NRow (h : Hr) (I o n sl k : Nat) (φ : FuncId) (x : Int) (bl : Bool) : Prop where
 t : nF[I]? = some (o, n, bl)
 ns : h.ns[I]? = some (o, n, x, bl)
 hsl : sN[I]? = some sl
 hk : kN[I]? = some k
 x0 : nX[I * 4]? = some (.int .i64 (o : Nat))
 x1 : nX[I * 4 + 1]? = some (.int .i64 (n : Nat))
 x2 : nX[I * 4 + 2]? = some (.func (.func φ) #[] #[])
 x3 : nX[I * 4 + 3]? = some (.bool bl)
 says : ∀ (g : Nat) (w : World), Calls Tryz.prog φ #[.pointer (some ⟨g, 0, none⟩)] w fun e w' => e = .returned (.pointer (some ⟨g, sl, none⟩)) ∧ w' = w
 cell : h.C[sl]? = some (.int .i64 x)
 ent : Enters Tryz.prog φ
 n0 : 0 < n
 on : o + n ≤ 512
theorem nrow (h : Hr) (I : Nat) (hI : I < 7) : ∃ o n sl k φ x bl, NRow h I o n sl k φ x bl := by
 rcases seven hI with rfl | rfl | rfl | rfl | rfl | rfl | rfl
 ·exact ⟨100, 8, 3, 1, 71, h.mode, false, rfl, rfl, rfl, rfl, rfl, rfl, rfl, rfl, nx1_any, rfl, enters_of Tryz.func71 (by decide) rfl, by omega, by omega⟩
 ·exact ⟨108, 8, 4, 2, 72, h.uid, false, rfl, rfl, rfl, rfl, rfl, rfl, rfl, rfl, nx2_any, rfl, enters_of Tryz.func72 (by decide) rfl, by omega, by omega⟩
 ·exact ⟨116, 8, 5, 3, 73, h.gid, false, rfl, rfl, rfl, rfl, rfl, rfl, rfl, rfl, nx3_any, rfl, enters_of Tryz.func73 (by decide) rfl, by omega, by omega⟩
 ·exact ⟨124, 12, 6, 4, 74, h.size, false, rfl, rfl, rfl, rfl, rfl, rfl, rfl, rfl, nx4_any, rfl, enters_of Tryz.func74 (by decide) rfl, by omega, by omega⟩
 ·exact ⟨136, 12, 7, 5, 75, h.time, true, rfl, rfl, rfl, rfl, rfl, rfl, rfl, rfl, nx5_any, rfl, enters_of Tryz.func75 (by decide) rfl, by omega, by omega⟩
 ·exact ⟨329, 8, 12, 12, 76, h.major, false, rfl, rfl, rfl, rfl, rfl, rfl, rfl, rfl, nx6_any, rfl, enters_of Tryz.func76 (by decide) rfl, by omega, by omega⟩
 ·exact ⟨337, 8, 13, 13, 77, h.minor, false, rfl, rfl, rfl, rfl, rfl, rfl, rfl, rfl, nx7_any, rfl, enters_of Tryz.func77 (by decide) rfl, by omega, by omega⟩
theorem can_of (h : Hr) (f : Nat) (hT : ∀ J x, J < 5 → h.ts[J]? = some x → tCan f x = true) (hN : ∀ J x, J < 7 → h.ns[J]? = some x → nCan f x = true) : h.can f = true := by
 unfold Hr.can;rw [Bool.and_eq_true, List.all_eq_true, List.all_eq_true];refine ⟨fun x hx => ?_, fun x hx => ?_⟩
 ·obtain ⟨k, hk, e⟩ := List.getElem_of_mem hx;exact hT k x hk (by rw [List.getElem?_eq_getElem hk, e])
 ·obtain ⟨k, hk, e⟩ := List.getElem_of_mem hx;exact hN k x hk (by rw [List.getElem?_eq_getElem hk, e])
theorem can_not_t (h : Hr) (f i : Nat) (x : Nat × Nat × ByteArray) (hi : h.ts[i]? = some x) (hx : tCan f x = false) : h.can f = false := by
 rw [Bool.eq_false_iff];intro H;unfold Hr.can at H;rw [Bool.and_eq_true, List.all_eq_true] at H;have := H.1 x (List.mem_of_getElem? hi);rw [hx] at this; cases this
theorem can_not_n (h : Hr) (f i : Nat) (x : Nat × Nat × Int × Bool) (hi : h.ns[i]? = some x) (hx : nCan f x = false) : h.can f = false := by
 rw [Bool.eq_false_iff];intro H;unfold Hr.can at H;rw [Bool.and_eq_true, List.all_eq_true, List.all_eq_true] at H;have := H.2 x (List.mem_of_getElem? hi);rw [hx] at this; cases this
theorem str_emp (s : ByteArray) : s.toList.isEmpty = decide (s = eS) := by
 rw [ByteArray.toList_eq];by_cases h : s = eS
 ·subst h; rfl
 ·rw [decide_eq_false h];cases hl : s.data.toList with
  | nil => exact absurd (ByteArray.ext (Array.toList_inj.1 hl)) h
  | cons a l => rfl
theorem ts_size (h : Hr) (ok : h.Ok) (I o n : Nat) (s : ByteArray) (e : h.ts[I]? = some (o, n, s)) : s.size ≤ 140737488351232 := by
 have h5 : I < 5 := (List.getElem?_eq_some_iff.1 e).1;rcases five h5 with rfl | rfl | rfl | rfl | rfl <;>
 ·simp only [Hr.ts, List.getElem?_cons_zero, List.getElem?_cons_succ, Option.some.injEq, Prod.mk.injEq] at e;obtain ⟨_, _, rfl⟩ := e;first | exact ok.name | exact ok.link | exact ok.user | exact ok.group | exact ok.pfx
theorem ns_i64 (h : Hr) (ok : h.Ok) (I o n : Nat) (x : Int) (bl : Bool) (e : h.ns[I]? = some (o, n, x, bl)) : i64 x := by
 have h5 : I < 7 := (List.getElem?_eq_some_iff.1 e).1;rcases seven h5 with rfl | rfl | rfl | rfl | rfl | rfl | rfl <;>
 ·simp only [Hr.ns, List.getElem?_cons_zero, List.getElem?_cons_succ, Option.some.injEq, Prod.mk.injEq] at e;obtain ⟨_, _, rfl, _⟩ := e;first | exact ok.mode | exact ok.uid | exact ok.gid | exact ok.size | exact ok.time | exact ok.major | exact ok.minor
theorem canSay_any (f : Nat) (hb : Nat) (h : Hr) (w : World) (ok : h.Ok) (hh : HcH hb h w) :
  Calls Tryz.prog 29 #[.agg #[.int .i64 f, .int .i64 (fE f : Nat), fP f], .pointer (some ⟨hb, 0, none⟩)] w fun e w' => e = .returned (.bool (h.can f)) ∧ Nw w w' := by
 refine asP fun P hP => ?_
 have HF : Hid (∀ W r, Nw w W → h.can f = r → P (.returned (.bool r)) W) := fun W r hW hr => by rw [hP, ← hr]; exact ⟨rfl, hW⟩
 clear hP;obtain ⟨F, hF⟩ : ∃ F, fP f = F := ⟨_, rfl⟩;rw [hF];obtain ⟨W0, hW0⟩ : ∃ W0, w.alloc (.cells #[.int .i64 f, .int .i64 (fE f : Nat), F] 72) = W0 := ⟨_, rfl⟩;have HN0 : Hid (Nw w W0) := by rw [← hW0]; exact (Fr.refl _ _).alloc _
 have HF0 : Hid (W0.heap[w.heap.size]? = some (.cells #[.int .i64 f, .int .i64 (fE f : Nat), F] 72)) := by rw [← hW0]; exact newHeap _ _
 have HH := tHid hh;have HTX : Hid (Calls Tryz.prog 42 #[] W0 fun e w1 => e = .returned (.slice (some ⟨W0.heap.size, 0, none⟩) 5 5) ∧ Hid (Nw W0 w1 ∧ w1.heap[W0.heap.size]? = some (.cells tX 101))) := by
  refine (texts_any W0).mono ?_;rintro e w1 ⟨rfl, rfl⟩;exact ⟨rfl, (Fr.refl _ _).alloc _, newHeap _ _⟩
 have HNX : Hid (∀ V, Calls Tryz.prog 45 #[] V fun e w1 => e = .returned (.slice (some ⟨V.heap.size, 0, none⟩) 7 7) ∧ Hid (Nw V w1 ∧ w1.heap[V.heap.size]? = some (.cells nX 109))) := fun V => by
  refine (numbers_any V).mono ?_;rintro e w1 ⟨rfl, rfl⟩;exact ⟨rfl, (Fr.refl _ _).alloc _, newHeap _ _⟩
 have HW0 := tHid hW0;clear hW0 hh hF;go_enter Tryz.func29, Tryz.ntmps29;go_upto_region 1 with fail;rw [HW0.out];go_upto_region 2 with (first | (go_at_call 42; with_reducible refine HTX.out.mono ?_; rintro e w1 ⟨rfl, K1⟩));generalize W0.heap.size = tb at *;clear HTX HW0;have HN1 : Hid (Nw w w1) := HN0.out.trans K1.out.1;have HF1 := tHid (Nw.heap K1.out.1 HF0.out);have HH1 : Hid (HcH hb h w1) := Nw.heap HN1.out HH.out;have HT1 := tHid K1.out.2;clear HN0 HF0 HH K1
 go_loopg [12] 5 (fun kx v wr => ∃ I : Nat, I ≤ 5 ∧ 5 ≤ I + kx ∧ v = .int .i64 (I : Int) ∧ Hid (Nw w1 wr ∧ ∀ J x, J < I → h.ts[J]? = some x → tCan f x = true))
 case atStart => exact ⟨0, by omega, by omega, rfl, Fr.refl _ _, fun J x hJ _ => absurd hJ (Nat.not_lt_zero J)⟩
 case round =>
  obtain ⟨I, hI, hkx, rfl, HI⟩ := hrel;by_cases hlt : I < 5
  ·obtain ⟨o, n, sl, k, φ, s, R⟩ := trow h I hlt;have htb := Nw.heap HI.out.1 HT1.out;have c0 := cell_of htb (I * 3) _ R.x0;have c1 := cell_of htb (I * 3 + 1) _ R.x1;have c2 := cell_of htb (I * 3 + 2) _ R.x2;have hI5 : (I : Int) < 5 := by omega
   obtain ⟨V, hV⟩ : ∃ V, wr.alloc (.cells #[.int .i64 (o : Nat), .int .i64 (n : Nat), .func (.func φ) #[] #[]] 101) = V := ⟨_, rfl⟩;have HNV : Hid (Nw w1 V) := by rw [← hV]; exact HI.out.1.alloc _
   have hxb : V.heap[wr.heap.size]? = some (.cells #[.int .i64 (o : Nat), .int .i64 (n : Nat), .func (.func φ) #[] #[]] 101) := by rw [← hV]; exact newHeap _ _
   have v0 := cell_of hxb 0 _ rfl;have v1 := cell_of hxb 1 _ rfl;have v2 := cell_of hxb 2 _ rfl;have hhc := cell_of (Nw.heap HNV.out HH1.out) sl _ R.cell;have hfV := Nw.heap HNV.out HF1.out;have f0 := cell_of hfV 0 _ rfl;have f1 := cell_of hfV 1 _ rfl;have f2 := cell_of hfV 2 _ rfl;have HSY := tHid (R.says hb V);have hent : ∀ args w, (callFunc φ args).run Tryz.prog w = .ok (.enter φ args) w := R.ent;have HCT := tHid (contains_any s V (ts_size h ok I o n s R.ts));have HHS := tHid (has_any (f : Nat) (fE f : Nat) (o : Nat) (n : Nat) F V);have hse := str_emp s;have HV := tHid hV
   have hnz : noZ s = decide (¬ 0 ≤ Lib.indexByte s.data.toList 0) := rfl;have HTC : Hid (tCan f (o, n, s) = (noZ s && (decide (s = eS) || decide (o < fE f)))) := rfl;have HST : Hid (tCan f (o, n, s) = true → ∀ W, Nw w1 W → Nw w1 W ∧ ∀ J x, J < I + 1 → h.ts[J]? = some x → tCan f x = true) := fun ht W hW => ⟨hW, fun J x hJ hx => by
    by_cases e : J = I
    ·subst e; rw [R.ts] at hx; injection hx with hx; rw [← hx]; exact ht
    ·exact HI.out.2 J x (by omega) hx⟩
   have HBD : Hid (tCan f (o, n, s) = false → ∀ W, Nw w1 W → P (.returned (.bool false)) W) := fun ht W hW => HF.out W false (HN1.out.trans hW) (can_not_t h f I _ R.ts ht)
   have hof : decide ((o : Int) < (fE f : Int)) = decide (o < fE f) := by apply decide_eq_decide.2; omega
   clear htb hxb hfV R hV HI HNX HF;generalize fE f = E at *;by_cases hz : 0 ≤ Lib.indexByte s.data.toList 0
   ·have hd : tCan f (o, n, s) = false := by rw [HTC.out, hnz, decide_eq_false (fun q => q hz)]; rfl
    have HB2 := tHid (HBD.out hd);rw [decide_eq_true hz] at HCT;clear hnz HTC HST HBD hd;go_upto_region 4 with fail;rw [HV.out]
    go_wp2_with (first
     | (go_at_fn φ; with_reducible refine HSY.out.mono ?_; rintro e w2 ⟨rfl, rfl⟩)
     | (go_at_call 43; with_reducible refine HCT.out.mono ?_; rintro e w3 ⟨rfl, rfl⟩))
    exact HB2.out _ HNV.out
   ·rw [decide_eq_false hz] at HCT;rw [decide_eq_true hz] at hnz;rw [hnz, Bool.true_and] at HTC;by_cases hs0 : s = eS
    ·rw [decide_eq_true hs0] at HTC hse;have HS2 := tHid (HST.out HTC.out V HNV.out);clear hnz HTC HST HBD hs0 hz;go_upto_region 4 with fail;rw [HV.out]
     go_wp2_with (first
      | (go_at_fn φ; with_reducible refine HSY.out.mono ?_; rintro e w2 ⟨rfl, rfl⟩)
      | (go_at_call 43; with_reducible refine HCT.out.mono ?_; rintro e w3 ⟨rfl, rfl⟩))
     go_roundg (5 - (I + 1))
     case measure => omega
     case rel => exact ⟨I + 1, by omega, by omega, by first | rfl | (congr 1), HS2⟩
    ·rw [decide_eq_false hs0] at HTC hse;rw [Bool.false_or] at HTC;by_cases hoE : o < E
     ·rw [decide_eq_true hoE] at HTC hof;rw [hof] at HHS;have HS2 := tHid (fun W (hW : Nw V W) => HST.out HTC.out W (HNV.out.trans hW));clear hnz HTC HST HBD hs0 hz;go_upto_region 4 with fail;rw [HV.out]
      go_wp2_with (first
       | (go_at_fn φ; with_reducible refine HSY.out.mono ?_; rintro e w2 ⟨rfl, rfl⟩)
       | (go_at_call 43; with_reducible refine HCT.out.mono ?_; rintro e w3 ⟨rfl, rfl⟩)
       | (go_at_call 44; with_reducible refine HHS.out.mono ?_; rintro e w4 ⟨rfl, K4⟩))
      go_roundg (5 - (I + 1))
      case measure => omega
      case rel => exact ⟨I + 1, by omega, by omega, by first | rfl | (congr 1), HS2.out _ K4⟩
     ·rw [decide_eq_false hoE] at HTC hof;rw [hof] at HHS;have HB2 := tHid (fun W (hW : Nw V W) => HBD.out HTC.out W (HNV.out.trans hW));clear hnz HTC HST HBD hs0 hz;go_upto_region 4 with fail;rw [HV.out]
      go_wp2_with (first
       | (go_at_fn φ; with_reducible refine HSY.out.mono ?_; rintro e w2 ⟨rfl, rfl⟩)
       | (go_at_call 43; with_reducible refine HCT.out.mono ?_; rintro e w3 ⟨rfl, rfl⟩)
       | (go_at_call 44; with_reducible refine HHS.out.mono ?_; rintro e w4 ⟨rfl, K4⟩))
      exact HB2.out _ K4
  ·have hI5 : ¬ (I : Int) < 5 := by omega
   have HT5 : Hid (∀ J x, J < 5 → h.ts[J]? = some x → tCan f x = true) := fun J x hJ hx => HI.out.2 J x (by omega) hx
   have HNr := tHid HI.out.1;clear HI HT1;go_upto_region 9 with (first | (go_at_call 45; with_reducible refine (HNX.out _).mono ?_; rintro e w5 ⟨rfl, K5⟩));generalize wr.heap.size = nb at *;have HN5 : Hid (Nw w w5) := (HN1.out.trans HNr.out).trans K5.out.1;have HF5 := tHid (Nw.heap (HNr.out.trans K5.out.1) HF1.out);have HH5 : Hid (HcH hb h w5) := Nw.heap (HNr.out.trans K5.out.1) HH1.out;have HX5 := tHid K5.out.2;clear HN1 HF1 HH1 HNr K5 HNX
   go_loopg [38] 7 (fun kx v wr => ∃ I : Nat, I ≤ 7 ∧ 7 ≤ I + kx ∧ v = .int .i64 (I : Int) ∧ Hid (Nw w5 wr ∧ ∀ J x, J < I → h.ns[J]? = some x → nCan f x = true))
   case atStart => exact ⟨0, by omega, by omega, rfl, Fr.refl _ _, fun J x hJ _ => absurd hJ (Nat.not_lt_zero J)⟩
   case round =>
    obtain ⟨I, hI, hkx, rfl, HI⟩ := hrel;by_cases hlt : I < 7
    ·obtain ⟨o, n, sl, k, φ, x, bl, R⟩ := nrow h I hlt;have htb := Nw.heap HI.out.1 HX5.out;have c0 := cell_of htb (I * 4) _ R.x0;have c1 := cell_of htb (I * 4 + 1) _ R.x1;have c2 := cell_of htb (I * 4 + 2) _ R.x2;have c3 := cell_of htb (I * 4 + 3) _ R.x3;have hI5 : (I : Int) < 7 := by omega
     obtain ⟨V, hV⟩ : ∃ V, wr.alloc (.cells #[.int .i64 (o : Nat), .int .i64 (n : Nat), .func (.func φ) #[] #[], .bool bl] 109) = V := ⟨_, rfl⟩;have HNV : Hid (Nw w5 V) := by rw [← hV]; exact HI.out.1.alloc _
     have hxb : V.heap[wr.heap.size]? = some (.cells #[.int .i64 (o : Nat), .int .i64 (n : Nat), .func (.func φ) #[] #[], .bool bl] 109) := by rw [← hV]; exact newHeap _ _
     have v0 := cell_of hxb 0 _ rfl;have v1 := cell_of hxb 1 _ rfl;have v2 := cell_of hxb 2 _ rfl;have v3 := cell_of hxb 3 _ rfl;have hhc := cell_of (Nw.heap HNV.out HH5.out) sl _ R.cell;have hfV := Nw.heap HNV.out HF5.out;have f0 := cell_of hfV 0 _ rfl;have f1 := cell_of hfV 1 _ rfl;have f2 := cell_of hfV 2 _ rfl;have HSY := tHid (R.says hb V);have hent : ∀ args w, (callFunc φ args).run Tryz.prog w = .ok (.enter φ args) w := R.ent;have HHS := tHid (has_any (f : Nat) (fE f : Nat) (o : Nat) (n : Nat) F V);have HV := tHid hV
     have HTC : Hid (nCan f (o, n, x, bl) = (decide (x = 0) || decide (o < fE f))) := rfl;have HST : Hid (nCan f (o, n, x, bl) = true → ∀ W, Nw w5 W → Nw w5 W ∧ ∀ J y, J < I + 1 → h.ns[J]? = some y → nCan f y = true) := fun ht W hW => ⟨hW, fun J y hJ hx => by
      by_cases e : J = I
      ·subst e; rw [R.ns] at hx; injection hx with hx; rw [← hx]; exact ht
      ·exact HI.out.2 J y (by omega) hx⟩
     have HBD : Hid (nCan f (o, n, x, bl) = false → ∀ W, Nw w5 W → P (.returned (.bool false)) W) := fun ht W hW => HF.out W false (HN5.out.trans hW) (can_not_n h f I _ R.ns ht)
     have hof : decide ((o : Int) < (fE f : Int)) = decide (o < fE f) := by apply decide_eq_decide.2; omega
     clear htb hxb hfV R hV HI HF;generalize fE f = E at *;by_cases hz : x = 0
     ·rw [decide_eq_true hz] at HTC;have HS2 := tHid (HST.out HTC.out V HNV.out);subst hz;clear HTC HST HBD;go_upto_region 11 with fail;rw [HV.out]
      go_wp2_with (first
       | (go_at_fn φ; with_reducible refine HSY.out.mono ?_; rintro e w2 ⟨rfl, rfl⟩))
      go_roundg (7 - (I + 1))
      case measure => omega
      case rel => exact ⟨I + 1, by omega, by omega, by first | rfl | (congr 1), HS2⟩
     ·rw [decide_eq_false hz, Bool.false_or] at HTC;have hx0 : (x == 0) = false := by simpa using hz
      by_cases hoE : o < E
      ·rw [decide_eq_true hoE] at HTC hof;rw [hof] at HHS;have HS2 := tHid (fun W (hW : Nw V W) => HST.out HTC.out W (HNV.out.trans hW));clear HTC HST HBD;go_upto_region 11 with fail;rw [HV.out]
       go_wp2_with (first
        | (go_at_fn φ; with_reducible refine HSY.out.mono ?_; rintro e w2 ⟨rfl, rfl⟩)
        | (go_at_call 44; with_reducible refine HHS.out.mono ?_; rintro e w4 ⟨rfl, K4⟩))
       go_roundg (7 - (I + 1))
       case measure => omega
       case rel => exact ⟨I + 1, by omega, by omega, by first | rfl | (congr 1), HS2.out _ K4⟩
      ·rw [decide_eq_false hoE] at HTC hof;rw [hof] at HHS;have HB2 := tHid (fun W (hW : Nw V W) => HBD.out HTC.out W (HNV.out.trans hW));clear HTC HST HBD;go_upto_region 11 with fail;rw [HV.out]
       go_wp2_with (first
        | (go_at_fn φ; with_reducible refine HSY.out.mono ?_; rintro e w2 ⟨rfl, rfl⟩)
        | (go_at_call 44; with_reducible refine HHS.out.mono ?_; rintro e w4 ⟨rfl, K4⟩))
       exact HB2.out _ K4
    ·have hI5 : ¬ (I : Int) < 7 := by omega
     have HFE := tHid (HF.out wr true (HN5.out.trans HI.out.1) (can_of h f HT5.out (fun J x hJ hx => HI.out.2 J x (by omega) hx)));clear HI HF
     go_wp2_with fail
     exact HFE.out
structure RI (h : Hr) (f I J rb : Nat) (U0 w : World) : Prop where
 rc0 : RcH rb (eL h f I J [h.typ] (mg f)).flatten w
 fr : Fr (fun k => k = rb) U0 w
 t : tOkI h f I
 n : nOkI h f J
theorem RI.len {h : Hr} {f I J rb : Nat} {U0 w : World} (H : RI h f I J rb U0 w) (ok : h.Ok) : (eL h f I J [h.typ] (mg f)).flatten.length = 512 := (eL_fs h ok f I J _ _ rfl (mg_length f) H.t H.n).length
theorem RI.nw {h : Hr} {f I J rb : Nat} {U0 w w' : World} (H : RI h f I J rb U0 w) (k : Nw w w') : RI h f I J rb U0 w' := ⟨H.rc0.kept k (fun h => h), Fr.then H.fr k (fun i hi => hi.elim), H.t, H.n⟩
theorem tFit_skip (f o n : Nat) (s : ByteArray) (ho : ¬ o < fE f) : tFit f (o, n, s) = true := by
 unfold tFit;rw [Bool.or_eq_true];exact .inl (decide_eq_true (by simp only; omega))
theorem nFit_skip (f o n : Nat) (x : Int) (bl : Bool) (ho : ¬ o < fE f) : nFit f (o, n, x, bl) = true := by
 unfold nFit;rw [Bool.or_eq_true];exact .inl (decide_eq_true (by simp only; omega))
theorem RI.tskip {h : Hr} {f I J rb : Nat} {U0 w : World} (H : RI h f I J rb U0 w) {o n : Nat} {s : ByteArray} (e : h.ts[I]? = some (o, n, s)) (ho : ¬ o < fE f) : RI h f (I + 1) J rb U0 w :=
 ⟨by rw [eL_tn h f I J o n s _ _ e ho]; exact H.rc0, H.fr, tOkI_step h f I _ e H.t (tFit_skip f o n s ho), H.n⟩
theorem RI.nskip {h : Hr} {f I J rb : Nat} {U0 w : World} (H : RI h f I J rb U0 w) {o n : Nat} {x : Int} {bl : Bool} (e : h.ns[J]? = some (o, n, x, bl)) (ho : ¬ o < fE f) : RI h f I (J + 1) rb U0 w :=
 ⟨by rw [eL_nn h f I J o n x bl _ _ e ho]; exact H.rc0, H.fr, H.t, nOkI_step h f J _ e H.n (nFit_skip f o n x bl ho)⟩
theorem kT_off (I k o n : Nat) (hk : kT[I]? = some k) (ht : tF[I]? = some (o, n)) : (Ws.take k).sum = o ∧ Ws[k]? = some n := by
 have h5 : I < 5 := (List.getElem?_eq_some_iff.1 hk).1;rcases five h5 with rfl | rfl | rfl | rfl | rfl <;>
 ·simp only [kT, tF, List.getElem?_cons_zero, List.getElem?_cons_succ, Option.some.injEq, Prod.mk.injEq] at hk ht;subst hk;obtain ⟨rfl, rfl⟩ := ht;exact ⟨rfl, rfl⟩
theorem kN_off (I k o n : Nat) (bl : Bool) (hk : kN[I]? = some k) (ht : nF[I]? = some (o, n, bl)) : (Ws.take k).sum = o ∧ Ws[k]? = some n := by
 have h5 : I < 7 := (List.getElem?_eq_some_iff.1 hk).1;rcases seven h5 with rfl | rfl | rfl | rfl | rfl | rfl | rfl <;>
 ·simp only [kN, nF, List.getElem?_cons_zero, List.getElem?_cons_succ, Option.some.injEq, Prod.mk.injEq] at hk ht;subst hk;obtain ⟨rfl, rfl, rfl⟩ := ht;exact ⟨rfl, rfl⟩
theorem RI.tput {h : Hr} {f I J rb : Nat} {U0 w w' : World} (ok : h.Ok) (H : RI h f I J rb U0 w) {o n sl k : Nat} {φ : FuncId} {s : ByteArray} (R : TRow h I o n sl k φ s) (ho : o < fE f) (hE : pxE s n = 0) (hr : RcH rb (pt (eL h f I J [h.typ] (mg f)).flatten o (pxL s n)) w') (hf : Fr (fun k => k = rb) w w') : RI h f (I + 1) J rb U0 w' := by
 have F := eL_fs h ok f I J [h.typ] (mg f) rfl (mg_length f) H.t H.n;obtain ⟨e1, e2⟩ := kT_off I k o n R.hk R.t;refine ⟨?_, Fr.then H.fr hf (fun i hi => .inl hi), tOkI_step h f I _ R.ts H.t (tFit_of hE), H.n⟩;rw [eL_t h f I J o n k s _ _ R.ts R.hk ho, ← F.pt k o (pxL s n) e1 (by rw [px_length s n hE]; exact e2)];exact hr
theorem RI.nput {h : Hr} {f I J rb : Nat} {U0 w w' : World} (ok : h.Ok) (H : RI h f I J rb U0 w) {o n sl k : Nat} {φ : FuncId} {x : Int} {bl : Bool} (R : NRow h J o n sl k φ x bl) (ho : o < fE f) (hE : nE f x n = 0) (hb : 0 ≤ x ∨ bl = true) (hr : RcH rb (pt (eL h f I J [h.typ] (mg f)).flatten o (nL f x n)) w') (hf : Fr (fun k => k = rb) w w') : RI h f I (J + 1) rb U0 w' := by
 have F := eL_fs h ok f I J [h.typ] (mg f) rfl (mg_length f) H.t H.n;obtain ⟨e1, e2⟩ := kN_off J k o n bl R.hk R.t;have hx := ns_i64 h ok J o n x bl R.ns;refine ⟨?_, Fr.then H.fr hf (fun i hi => .inl hi), H.t, nOkI_step h f J _ R.ns H.n (nFit_of hE hb)⟩;rw [eL_n h f I J o n k x bl _ _ R.ns R.hk ho, ← F.pt k o (nL f x n) e1 (by rw [nL_length f x n hx hE]; exact e2)];exact hr
theorem eL_start (h : Hr) (f : Nat) : (eL h f 0 0 [h.typ] (mg f)).flatten = pt (zrec.set 156 h.typ) 257 (mg f) := by
 have Z : Fs (Ws.map zs) := by
  unfold Fs;rw [List.map_map];have : (List.length ∘ zs) = id := by funext n; exact zs_length n
  rw [this, List.map_id]
 have z0 : zrec = (Ws.map zs).flatten := by decide +kernel
 have e1 : zrec.set 156 h.typ = ((Ws.map zs).set 7 [h.typ]).flatten := by
  rw [← Z.pt 7 156 [h.typ] rfl rfl, ← z0];unfold pt;rw [List.set_eq_take_append_cons_drop, if_pos (by rw [zrec_length]; decide)];rfl
 have Z1 : Fs ((Ws.map zs).set 7 [h.typ]) := Z.set 7 _ rfl;rw [e1, Z1.pt 9 257 (mg f) rfl (by rw [mg_length]; rfl)];simp [eL, eT, eN, Ws]
end Go.Proofs.YtlenihpbhlfcoaaGreatDoor
