import Derived.Lib.AppendZeros
import Derived.Test.YtlenihpbhlfcoaaGreatDoorUao
import Derived.Laws.EntriesVeiled
import Derived.Lib.AppendIntMem
import Derived.Test.YtlenihpbhlfcoaaGreatDoorUak
set_option maxHeartbeats 8000000
set_option maxRecDepth 100000
set_option linter.unusedSimpArgs false
set_option linter.unusedVariables false
namespace Go.Proofs.YtlenihpbhlfcoaaGreatDoor
open Go.RowKit
def rgC (x : Rg) : Array Value := #[.int .i64 x.1, .int .i64 x.2]
def RG : RT Rg := { enc := fun x => [.int .i64 x.1, .int .i64 x.2], k := 2, T := 54, TS := 33, z := (0, 0), by_ := 16 }
theorem rgOk : RG.Ok := by
 refine ⟨fun _ => rfl, by decide, fun x v hv => ?_, Tryz.underlying33, ?_⟩
 ·simp only [RG, List.mem_cons, List.mem_nil_iff, or_false] at hv;rcases hv with rfl | rfl <;> rfl
 ·have h : (Tryz.prog.info? 54).map (fun i => (i.zero, i.size, i.bytes)) = some (some (.agg #[.int .i64 0, .int .i64 0]), 2, 16) := by kernel_rfl
  cases hq : Tryz.prog.info? 54 with
  | none => simp [hq] at h
  | some i => simp [hq] at h; exact ⟨i, _, hq, h.1, h.2.1, h.2.2, rfl⟩
theorem SlR.anyG {X : Nat → Prop} {v : Value} {l : List Rg} {w : World} (h : SlR RG X v l w) : SlR RG (fun _ => False) v l w := h.mono (fun _ h => h.elim)
theorem nHeap (w : World) (o : Obj) : (w.alloc o).heap[w.heap.size]? = some o := by
 show (w.heap.push o)[w.heap.size]? = _;simp
theorem litG (V : World) (x : Rg) : OwR RG V.heap.size (.slice (some ⟨V.heap.size, 0, none⟩) 1 1) [x] (V.alloc (.cells (rgC x) 54)) := OwR.built rgOk V [x] _ (by simp [flatR, RG, rgC]) (by simp)
theorem pushG (V : World) (og : Option Nat) (v : Value) (l : List Rg) (h : OgR RG og v l V) (hl : l.length ≤ 1000000000) (x : Rg) :
  ∃ og' v' W, Hid (∀ ty, (Builtin.append_ #[33, 33] ty #[v, .slice (some ⟨V.heap.size, 0, none⟩) 1 1]).run Tryz.prog (V.alloc (.cells (rgC x) 54)) = .ok v' W) ∧
   OgR RG og' v' (l ++ [x]) W ∧ Fr (fun k => og = some k) V W ∧ Went og og' V := by
 have hN : Nw V (V.alloc (.cells (rgC x) 54)) := (Fr.refl _ _).alloc _;have hb := litG V x;obtain ⟨v', og', W, k1, k2, k3, k4⟩ := ogR_app rgOk _ og v l (h.nw hN) (.slice (some ⟨V.heap.size, 0, none⟩) 1 1) [x] (hb.slr rgOk).anyG (by simp only [RG, List.length_singleton]; omega) (by simp only [List.length_singleton]; omega);exact ⟨og', v', W, k1, k2, hN.any.trans k3, Went.trans (Went.refl _ _) k4 hN.size⟩
theorem one_cell {w : World} {g : Nat} {v : Value} {T : Nat} (h : w.heap[g]? = some (.cells #[v] T)) : w.cell? ⟨g, 0, none⟩ = some v ∧ w.frozen? ⟨g, 0, none⟩ = false := by
 constructor <;> simp [World.cell?, World.frozen?, h]
theorem one_set {w : World} {g : Nat} {u v : Value} {T : Nat} (h : w.heap[g]? = some (.cells #[u] T)) : (w.setCell ⟨g, 0, none⟩ v).heap[g]? = some (.cells #[v] T) := by
 simp [World.setCell, Array.getElem?_modify, h]
theorem fr_set (w : World) (g : Nat) (v : Value) : Fr (fun k => k = g) w (w.setCell ⟨g, 0, none⟩ v) := (Fr.refl _ _).setCell _ _ (.inl rfl)
theorem Fr.heapv {X : Nat → Prop} {w w' : World} (h : Fr X w w') {g : Nat} {o : Obj} (hv : w.heap[g]? = some o) (hx : ¬ X g) : w'.heap[g]? = some o := (h.block g (Array.getElem?_eq_some_iff.1 hv).1 hx).trans hv
theorem slx_len {X : Nat → Prop} {a : Option Addr} {n c : Nat} {l : List By} {w : World} (h : Sl X (.slice a n c) l w) : l.length = n ∧ n ≤ c ∧ c < 9223372036854775808 := by
 obtain ⟨a', c', e, q1, q2⟩ := h.form;injection e with e1 e2 e3;omega
theorem slx_at {X : Nat → Prop} {a : Option Addr} {n c : Nat} {l : List By} {w : World} (h : Sl X (.slice a n c) l w) (i : Nat) (hi : i < l.length) : ∃ g o, a = some ⟨g, o, none⟩ ∧ w.cell? ⟨g, o + i, none⟩ = some (.int .u8 l[i].toNat) := by
 rcases h with ⟨_, _, rfl⟩ | ⟨g, _, o, c', e, _, _, h⟩
 ·simp at hi
 ·injection e with e1 _ _;exact ⟨g, o, e1, h i hi⟩
theorem by_ne {x : By} (h : x ≠ 0#8) : ¬ ((x.toNat : Int) = 0) := by
 intro e;apply h;apply BitVec.eq_of_toNat_eq;have : (x.toNat : Int) = 0 := e;simp;omega
def NewG (w : World) (v : Value) (l : List Rg) (V : World) : Prop := ∃ og, OgR RG og v l V ∧ ∀ g, og = some g → w.heap.size ≤ g
theorem NewG.nw {w : World} {v : Value} {l : List Rg} {V V' : World} (h : NewG w v l V) (f : Nw V V') : NewG w v l V' := by
 obtain ⟨og, h1, h2⟩ := h;exact ⟨og, h1.nw f, h2⟩
theorem NewG.slr {w : World} {v : Value} {l : List Rg} {V : World} (h : NewG w v l V) : SlR RG (fun _ => False) v l V := by
 obtain ⟨og, h1, h2⟩ := h;exact (h1.slr rgOk).anyG
theorem rg_at {X : Nat → Prop} {a : Option Addr} {n c : Nat} {l : List Rg} {w : World} (h : SlR RG X (.slice a n c) l w) (i : Nat) (hx : i < l.length) : ∃ g o, a = some ⟨g, o, none⟩ ∧ ¬ X g ∧ w.cell? ⟨g, o + i * 2, none⟩ = some (.int .i64 (l[i]'hx).1) ∧ w.cell? ⟨g, o + i * 2 + 1, none⟩ = some (.int .i64 (l[i]'hx).2) := by
 obtain ⟨g, o, e, hg, hc⟩ := h.at i l[i] (List.getElem?_eq_getElem hx);have h0 := hc 0 _ rfl;have h1 := hc 1 _ rfl;simp only [RG, Nat.add_zero] at h0 h1;exact ⟨g, o, e, hg, h0, h1⟩
theorem drop_at (l : List Rg) (I : Nat) (h : I < l.length) : l.drop I = l[I] :: l.drop (I + 1) := List.drop_eq_getElem_cons h
def InG (w : World) (a : Option Addr) (l : List Rg) : Prop := ∀ V, Nw w V → ∀ i (h : i < l.length), ∃ g o, a = some ⟨g, o, none⟩ ∧ V.cell? ⟨g, o + i * 2, none⟩ = some (.int .i64 l[i].1) ∧ V.cell? ⟨g, o + i * 2 + 1, none⟩ = some (.int .i64 l[i].2)
theorem SlR.inG {X : Nat → Prop} {a : Option Addr} {n c : Nat} {l : List Rg} {w : World} (h : SlR RG X (.slice a n c) l w) : InG w a l := fun V hV i hi => by
 obtain ⟨g, o, e, _, h0, h1⟩ := rg_at (h.nw hV) i hi;exact ⟨g, o, e, h0, h1⟩
theorem slg_len {X : Nat → Prop} {a : Option Addr} {n c : Nat} {l : List Rg} {w : World} (h : SlR RG X (.slice a n c) l w) : l.length = n ∧ n ≤ c ∧ c < 9223372036854775808 := by
 obtain ⟨a', c', e, q1, q2, _⟩ := h.form;injection e with e1 e2 e3;omega
theorem valid_any {X : Nat → Prop} (w : World) (a : Option Addr) (n c : Nat) (l : List Rg) (hl : SlR RG X (.slice a n c) l w) (s : Int) :
  Calls Tryz.prog 22 #[.slice a n c, .int .i64 s] w fun e w' => e = .returned (.bool (vld l s)) ∧ Nw w w' := by
 refine asP fun P hP => ?_
 have HF : Hid (∀ B V, vld l s = B → Nw w V → P (.returned (.bool B)) V) := fun B V h1 h2 => by rw [hP, h1]; exact ⟨rfl, h2⟩
 clear hP;obtain ⟨hln, k1, k2⟩ := slg_len hl;have HI := tHid hl.inG;clear hl;by_cases hs : s < 0
 ·have HF2 := tHid (HF.out false w (vld_neg (by omega)) (Fr.refl _ _));clear HF HI;go_enter Tryz.func22, Tryz.ntmps22
  go_wp2_with fail
  first | exact HF2.out | (go_ret; exact HF2.out)
 ·by_cases hn : 65536 < n
  ·have HF2 := tHid (HF.out false w (vld_long (by omega)) (Fr.refl _ _));have hni : (65536 : Int) < (n : Int) := by omega
   clear HF HI;go_enter Tryz.func22, Tryz.ntmps22
   go_wp2_with fail
   first | exact HF2.out | (go_ret; exact HF2.out)
  ·have hni : ¬ (65536 : Int) < (n : Int) := by omega
   have HS : Hid (vld l s = vlE s 0 (l.drop 0)) := by show _ = _; rw [vld_else (by omega) (by omega)]; rfl
   have HLN := tHid hln;clear hln;go_enter Tryz.func22, Tryz.ntmps22;go_upto_region 5 with fail;go_loopg [5, 17] n (fun kx e i wr => ∃ (I : Nat) (E : Int), I ≤ n ∧ n - I ≤ kx ∧ e = .int .i64 E ∧ i = .int .i64 I ∧ Hid (Nw w wr ∧ vld l s = vlE s E (l.drop I)))
   case atStart => exact ⟨0, 0, by omega, by omega, rfl, rfl, Fr.refl _ _, HS.out⟩
   case round =>
    obtain ⟨I, E, hI, hkx, rfl, rfl, HL⟩ := hrel;obtain ⟨hN, hE⟩ := HL.out;by_cases hlt : I < n
    ·have hlt' : I < l.length := by have := HLN.out; omega
     obtain ⟨g, o, rfl, x0, x1⟩ := HI.out wr hN I hlt';rw [drop_at l I hlt'] at hE;have HFb : Hid (∀ V, Nw wr V → ¬ (E ≤ l[I].1 ∧ l[I].1 ≤ l[I].2 ∧ l[I].2 ≤ s) → P (.returned (.bool false)) V) := fun V hV hb => HF.out false V (by rw [hE, vlE_bad hb]) (hN.trans hV)
     have HG : Hid (E ≤ l[I].1 → l[I].1 ≤ l[I].2 → l[I].2 ≤ s → vld l s = vlE s l[I].2 (l.drop (I + 1))) := fun h1 h2 h3 => by rw [hE, vlE_step h1 h2 h3]
     have HN := tHid hN;clear HF HI HS HL hE hN;generalize l[I].1 = f at *;generalize l[I].2 = t at *;by_cases h1 : f < E
     ·have HF2 : Hid (∀ V, Nw wr V → P (.returned (.bool false)) V) := fun V hV => HFb.out V hV (by omega)
      clear HFb HG
      go_wp2_with fail
      first | exact HF2.out _ ((Fr.refl _ _).alloc _) | (go_ret; exact HF2.out _ ((Fr.refl _ _).alloc _))
     ·by_cases h2 : t < f
      ·have HF2 : Hid (∀ V, Nw wr V → P (.returned (.bool false)) V) := fun V hV => HFb.out V hV (by omega)
       clear HFb HG
       go_wp2_with fail
       first | exact HF2.out _ ((Fr.refl _ _).alloc _) | (go_ret; exact HF2.out _ ((Fr.refl _ _).alloc _))
      ·by_cases h3 : s < t
       ·have HF2 : Hid (∀ V, Nw wr V → P (.returned (.bool false)) V) := fun V hV => HFb.out V hV (by omega)
        clear HFb HG
        go_wp2_with fail
        first | exact HF2.out _ ((Fr.refl _ _).alloc _) | (go_ret; exact HF2.out _ ((Fr.refl _ _).alloc _))
       ·have HG2 := tHid (HG.out (by omega) (by omega) (by omega));clear HFb HG
        go_wp2_with fail
        go_roundg (n - (I + 1))
        case measure => omega
        case rel => exact ⟨I + 1, t, by omega, by omega, rfl, by first | rfl | (congr 1), HN.out.alloc _, HG2.out⟩
    ·have HF2 := tHid (HF.out true wr (by rw [hE, List.drop_eq_nil_of_le (by have := HLN.out; omega)]; rfl) hN);obtain rfl : I = n := by omega
     clear HF HI HS HL hE hN
     go_wp2_with fail
     first | exact HF2.out | (go_ret; exact HF2.out)
theorem held_any {X : Nat → Prop} (w : World) (a : Option Addr) (n c : Nat) (l : List Rg) (hl : SlR RG X (.slice a n c) l w) (s : Int) (hs : 0 ≤ s ∧ s ≤ 9223372036854775807) (hv : vlE s 0 l = true) :
  Calls Tryz.prog 32 #[.slice a n c] w fun e w' => e = .returned (.int .i64 (hld l)) ∧ Nw w w' := by
 refine asP fun P hP => ?_
 have HF : Hid (∀ z V, hld l = z → Nw w V → P (.returned (.int .i64 z)) V) := fun z V h1 h2 => by rw [hP, h1]; exact ⟨rfl, h2⟩
 clear hP;obtain ⟨hln, k1, k2⟩ := slg_len hl;have HI := tHid hl.inG;have HLN := tHid hln;have HP : Hid (∀ i, 0 ≤ hld (l.take i) ∧ hld (l.take i) ≤ 9223372036854775807) := fun i => by have := hld_part hv hs.1 i; omega
 have HA : Hid (∀ x ∈ l, 0 ≤ x.1 ∧ x.1 ≤ x.2 ∧ x.2 ≤ 9223372036854775807) := fun x hx => by have := vlE_all hv (Int.le_refl _) x hx; omega
 clear hl hln hv hs;go_enter Tryz.func32, Tryz.ntmps32;go_upto_region 3 with fail;go_loopg [3, 8] n (fun kx e i wr => ∃ (I : Nat) (E : Int), I ≤ n ∧ n - I ≤ kx ∧ e = .int .i64 E ∧ i = .int .i64 I ∧ Hid (Nw w wr ∧ hld (l.take I) = E))
 case atStart => exact ⟨0, 0, by omega, by omega, rfl, rfl, Fr.refl _ _, rfl⟩
 case round =>
  obtain ⟨I, E, hI, hkx, rfl, rfl, HL⟩ := hrel;obtain ⟨hN, hE⟩ := HL.out;by_cases hlt : I < n
  ·have hlt' : I < l.length := by have := HLN.out; omega
   obtain ⟨g, o, rfl, x0, x1⟩ := HI.out wr hN I hlt';have hA := HA.out l[I] (List.getElem_mem hlt');have hsn : l.take (I + 1) = l.take I ++ [l[I]] := by rw [List.take_add_one, List.getElem?_eq_getElem hlt']; rfl
   have hq := HP.out (I + 1);have hq0 := HP.out I;have HE2 : Hid (hld (l.take (I + 1)) = E + (l[I].2 - l[I].1)) := by show _ = _; rw [hsn, hld_snoc, hE]
   rw [HE2.out] at hq;rw [hE] at hq0;have HN := tHid hN;clear HF HI HL hE hN HP HA hsn;generalize l[I].1 = f at *;generalize l[I].2 = t at *;obtain ⟨q1, q2⟩ := hq;obtain ⟨q3, q4⟩ := hq0;obtain ⟨q5, q6, q7⟩ := hA
   go_wp2_with fail
   go_roundg (n - (I + 1))
   case measure => omega
   case rel => exact ⟨I + 1, _, by omega, by omega, rfl, by first | rfl | (congr 1), HN.out.alloc _, HE2.out⟩
  ·have HF2 := tHid (HF.out E wr (by rw [← hE, List.take_of_length_le (by have := HLN.out; omega)]) hN);obtain rfl : I = n := by omega
   clear HF HI HL hE hN HP HA
   go_wp2_with fail
   first | exact HF2.out | (go_ret; exact HF2.out)
def more : List By → Option (Nat × Nat)
 | [] => none
 | x :: r => if x.toNat = 255 then (match more r with | none => none | some (n, k) => some (n + 255, k + 1)) else some (x.toNat, 1)
def num (low : Nat) (r : List By) : Option (Nat × Nat) := if low = 15 then (match more r with | none => none | some (n, k) => some (n + 15, k)) else some (low, 0)
structure Tk (σ : Type) where
 room : σ → Nat → Bool
 plain : σ → List By → σ
 reaches : σ → Nat → Bool
 mat : σ → Nat → Nat → σ
 fin : σ → σ
variable {σ : Type}
def cop (all : List By) (back : Nat) : Nat → List By
 | 0 => all
 | n + 1 => cop all back n ++ [(cop all back n).getD ((cop all back n).length - back) 0]
def pl (ahead : List By) (most : Nat) : Tk (List By) where
 room s n := decide (n + s.length ≤ most)
 plain s p := s ++ p
 reaches s b := decide (b ≤ ahead.length + s.length)
 mat s b n := (cop (ahead ++ s) b n).drop ahead.length
 fin s := s
end Go.Proofs.YtlenihpbhlfcoaaGreatDoor
namespace Go.Proofs.YtlenihpbhlfcoaaGreatDoor
open Go.RowKit
structure KK (K : Nat → Prop) (D B1 B2 B3 : Nat) (w : World) : Prop where
 d : ∀ k, k < D → K k
 b1 : K B1
 b2 : K B2
 b3 : K B3
 lt : ∀ k, K k → k < w.heap.size
theorem madeB (n : Nat) : (madeCells (Value.int .u8 0).cells n) = ((List.replicate n 0#8).map bv).toArray := by
 apply Array.ext'
 apply List.ext_getElem?
 intro k;by_cases hk : k < n
 ·simp [madeCells, Value.cells, hk, Nat.mod_one]
 ·rw [List.getElem?_eq_none (by simp [madeCells, Value.cells]; omega), List.getElem?_eq_none (by simp; omega)]
abbrev NewB (w : World) (v : Value) (l : List By) (V : World) : Prop := Mine (fun k => k < w.heap.size) v l V
theorem Sl.part {X : Nat → Prop} {g o n c : Nat} {l : List By} {w : World} (h : Sl X (.slice (some ⟨g, o, none⟩) n c) l w) (F T : Nat) (h1 : F ≤ T) (h2 : T ≤ n) (hc : F < c) : Sl X (.slice (some ⟨g, o + F, none⟩) (T - F) (c - F)) ((l.drop F).take (T - F)) w := by
 rcases h with ⟨a, e, rfl⟩ | ⟨g', hg, o', c', e, q1, q2, q3⟩
 ·injection e with e1 e2 e3; omega
 ·injection e with e1 e2 e3;injection e1 with e1;injection e1 with e1 e4;subst e1 e4;refine .inr ⟨g, hg, o + F, c - F, ?_, ?_, by omega, (q3.drop F).take (T - F)⟩
  ·rw [List.length_take, List.length_drop];congr 1;omega
  ·rw [List.length_take, List.length_drop]; omega
theorem rem512 (k : Nat) : (k : Int).tmod 512 = ((k % 512 : Nat) : Int) := by
 rw [Int.tmod_eq_emod_of_nonneg (by omega)]; omega
theorem padN_lt (p : Nat) : padN p < 512 := by unfold padN; omega
end Go.Proofs.YtlenihpbhlfcoaaGreatDoor
