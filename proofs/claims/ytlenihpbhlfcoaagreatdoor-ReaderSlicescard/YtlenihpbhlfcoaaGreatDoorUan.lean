import Derived.Lib.AppendZeros
import Derived.Test.YtlenihpbhlfcoaaGreatDoorUam
set_option maxHeartbeats 8000000
set_option maxRecDepth 100000
set_option linter.unusedSimpArgs false
set_option linter.unusedVariables false
namespace Go.Proofs.YtlenihpbhlfcoaaGreatDoor
open Go.RowKit
def RP : RT Pr := { enc := fun x => [.string (str x.1), .string (str x.2)], k := 2, T := 56, TS := 34, z := ([], []), by_ := 32 }
theorem rpOk : RP.Ok := by
 refine ⟨fun _ => rfl, by decide, fun x v hv => ?_, Tryz.underlying34, ?_⟩
 ·simp only [RP, List.mem_cons, List.mem_nil_iff, or_false] at hv;rcases hv with rfl | rfl <;> rfl
 ·have h : (Tryz.prog.info? 56).map (fun i => (i.zero, i.size, i.bytes)) = some (some (.agg #[.string ⟨#[]⟩, .string ⟨#[]⟩]), 2, 32) := by kernel_rfl
  cases hq : Tryz.prog.info? 56 with
  | none => simp [hq] at h
  | some i => simp [hq] at h; exact ⟨i, _, hq, h.1, h.2.1, h.2.2, rfl⟩
theorem SlR.anyP {X : Nat → Prop} {v : Value} {l : List Pr} {w : World} (h : SlR RP X v l w) : SlR RP (fun _ => False) v l w := h.mono (fun _ h => h.elim)
theorem litP (V : World) (x : Pr) : OwR RP V.heap.size (.slice (some ⟨V.heap.size, 0, none⟩) 1 1) [x] (V.alloc (.cells (prC x) 56)) := OwR.built rpOk V [x] _ (by simp [flatR, RP, prC]) (by simp)
theorem pushP (V : World) (og : Option Nat) (v : Value) (l : List Pr) (h : OgR RP og v l V) (hl : l.length ≤ 1000000000) (x : Pr) :
  ∃ og' v' W, Hid (∀ ty, (Builtin.append_ #[34, 34] ty #[v, .slice (some ⟨V.heap.size, 0, none⟩) 1 1]).run Tryz.prog (V.alloc (.cells (prC x) 56)) = .ok v' W) ∧
   OgR RP og' v' (l ++ [x]) W ∧ Fr (fun k => og = some k) V W ∧ Went og og' V := by
 have hN : Nw V (V.alloc (.cells (prC x) 56)) := (Fr.refl _ _).alloc _;have hb := litP V x;obtain ⟨v', og', W, k1, k2, k3, k4⟩ := ogR_app rpOk _ og v l (h.nw hN) (.slice (some ⟨V.heap.size, 0, none⟩) 1 1) [x] (hb.slr rpOk).anyP (by simp only [RP, List.length_singleton]; omega) (by simp only [List.length_singleton]; omega);exact ⟨og', v', W, k1, k2, hN.any.trans k3, Went.trans (Went.refl _ _) k4 hN.size⟩
def PaI (w : World) (b : Bs) (I : Nat) (v : Value) (V : World) : Prop := ∃ og acc, OgR RP og v acc V ∧ Nw w V ∧ (∀ g, og = some g → w.heap.size ≤ g) ∧ prs b 0 [] = prs b I acc ∧ acc.length ≤ I
theorem PaI.start (w : World) (b : Bs) : PaI w b 0 (.slice none 0 0) w := ⟨none, [], ⟨rfl, rfl⟩, Fr.refl _ _, (fun g h => by cases h), rfl, Nat.le_refl _⟩
theorem PaI.nw {w : World} {b : Bs} {I : Nat} {v : Value} {V V' : World} (h : PaI w b I v V) (f : Nw V V') : PaI w b I v V' := by
 obtain ⟨og, acc, h1, h2, h3, h4, h5⟩ := h;exact ⟨og, acc, h1.nw f, h2.trans f, h3, h4, h5⟩
theorem PaI.push {w : World} {b : Bs} {I : Nat} {v : Value} {V : World} (h : PaI w b I v V) (hI : I < b.length) (hb : b.length ≤ 1000000000) (x : Pr) (m : Nat) (hr : rc1 (b.drop I) = .ok x m) : ∃ v' W, Hid (∀ ty, (Builtin.append_ #[34, 34] ty #[v, .slice (some ⟨V.heap.size, 0, none⟩) 1 1]).run Tryz.prog (V.alloc (.cells (prC x) 56)) = .ok v' W) ∧ PaI w b (I + m) v' W := by
 obtain ⟨og, acc, h1, h2, h3, h4, h5⟩ := h;obtain ⟨og', v', W, k1, k2, k3, k4⟩ := pushP V og v acc h1 (by omega) x;refine ⟨v', W, k1, og', acc ++ [x], k2, h2.then k3 (fun i hi => .inr (h3 i hi)), fun g hg => ?_, ?_, ?_⟩
 ·rcases k4 with e | ⟨g', e, hg'⟩
  ·rw [e] at hg; exact h3 g hg
  ·rw [e] at hg; injection hg with hg; subst hg; exact Nat.le_trans h2.size hg'
 ·rw [h4]; exact prs_ok b I acc hI x m hr
 ·have := rc1_ok hr;rw [List.length_append, List.length_singleton]; omega
def PaA (w : World) (b : Bs) (e : Ending) (V : World) : Prop := ∃ v, e = .returned (.tuple #[v, .int .i64 ((prs b 0 []).2.1 : Nat), .int .i64 ((prs b 0 []).2.2 : Nat)]) ∧ Hid (Nw w V ∧ ∃ og, OgR RP og v (prs b 0 []).1 V ∧ ∀ g, og = some g → w.heap.size ≤ g)
theorem PaI.fin {w : World} {b : Bs} {I : Nat} {v : Value} {V : World} (h : PaI w b I v V) (hI : ¬ I < b.length) : PaA w b (.returned (.tuple #[v, .int .i64 0, .int .i64 0])) V := by
 obtain ⟨og, acc, h1, h2, h3, h4, h5⟩ := h;rw [prs_end b I acc hI] at h4;refine ⟨v, by rw [h4]; rfl, h2, og, ?_, h3⟩;rw [h4]; exact h1
theorem PaI.bad {w : World} {b : Bs} {I : Nat} {v : Value} {V : World} (h : PaI w b I v V) (hI : I < b.length) (m e : Nat) (hr : rc1 (b.drop I) = .bad m e) : PaA w b (.returned (.tuple #[.slice none 0 0, .int .i64 ((I + m : Nat) : Int), .int .i64 (e : Nat)])) V := by
 obtain ⟨og, acc, h1, h2, h3, h4, h5⟩ := h;rw [prs_bad b I acc hI m e hr] at h4;refine ⟨.slice none 0 0, by rw [h4], h2, none, ?_, (fun g h => by cases h)⟩;rw [h4]; exact ⟨rfl, rfl⟩
theorem parse_any {X : Nat → Prop} (w : World) (a : Option Addr) (n c : Nat) (b : List By) (hb : Sl X (.slice a n c) b w) (hn : n ≤ 1000000000) :
  Calls Tryz.prog 100 #[.slice a n c] w (PaA w b) := by
 refine asP fun P hP => ?_
 have HF1 : Hid (∀ I v V, PaI w b I v V → ¬ I < b.length → P (.returned (.tuple #[v, .int .i64 0, .int .i64 0])) V) := fun I v V h1 h2 => by rw [hP]; exact h1.fin h2
 have HF2 : Hid (∀ I v V m e, PaI w b I v V → I < b.length → rc1 (b.drop I) = .bad m e → P (.returned (.tuple #[.slice none 0 0, .int .i64 ((I + m : Nat) : Int), .int .i64 (e : Nat)])) V) := fun I v V m e h1 h2 h3 => by rw [hP]; exact h1.bad h2 m e h3
 clear hP;obtain ⟨hbn, k1, k2⟩ := sl_lenJ hb;have HB := tHid (And.intro hbn hb);clear hb hbn;go_enter Tryz.func100, Tryz.ntmps100;go_upto_region 3 with fail;go_loopg [5, 6] n (fun kx v i wr => ∃ (I : Nat) (v5 : Value), I ≤ n ∧ n - I ≤ kx ∧ v = v5 ∧ i = .int .i64 I ∧ Hid (PaI w b I v5 wr))
 case atStart => exact ⟨0, _, by omega, by omega, rfl, rfl, PaI.start w b⟩
 case round =>
  obtain ⟨I, v5, hI, hkx, hv5, rfl, HI⟩ := hrel;have hv5' := hv5.symm;subst hv5';clear hv5;obtain ⟨hbn, hS⟩ := HB.out;by_cases hlt : I < n
  ·have hNw : Nw w wr := by obtain ⟨_, _, _, h2, _⟩ := HI.out; exact h2
   obtain ⟨g, o, rfl, hS1⟩ := sl_last (hS.nw hNw) I hlt;have HC := tHid (pfirst_any wr _ _ _ _ hS1 (by omega));obtain ⟨N1, hN1⟩ : ∃ N1, n - I = N1 := ⟨_, rfl⟩;obtain ⟨C1, hC1⟩ : ∃ C1, c - I = C1 := ⟨_, rfl⟩;rw [hN1, hC1] at HC;have e1 : (I : Int) ≤ (n : Int) := by omega
   have e2 : (n : Int) ≤ (c : Int) := by omega
   have e3 : I < c := by omega
   have e4 : ¬ c ≤ I := by omega
   have e5 : ¬ c = I := by omega
   have e7 : (n : Int) - (I : Int) = (N1 : Int) := by omega
   have hlt' : I < b.length := by omega
   have HLT := tHid hlt';have HBN := tHid hbn;cases hr : rc1 (b.drop I) with
   | bad m e =>
    rw [hr] at HC;have hb3 := rc1_bad hr;rw [List.length_drop, hbn] at hb3;have he0 : ¬ ((e : Int) = 0) := by omega
    have he1 : ((e : Int) == 0) = false := by rw [beq_eq_false_iff_ne]; exact he0
    have he2 : ((e : Int) != 0) = true := by rw [bne, he1]; rfl
    have HF3 : Hid (∀ V, Nw wr V → P (.returned (.tuple #[.slice none 0 0, .int .i64 ((I + m : Nat) : Int), .int .i64 (e : Nat)])) V) := fun V hV => HF2.out I _ V m e (HI.out.nw hV) hlt' hr
    obtain ⟨K, hK⟩ : ∃ K, I + m = K := ⟨_, rfl⟩;have hKi : (I : Int) + (m : Int) = (K : Int) := by omega
    rw [hK] at HF3;have hKn : K ≤ n := by omega
    simp only [rxV, prC] at HC;clear HF1 HF2 hr hb3 hK hlt' hbn hS hS1 hNw
    go_wp2_with (first
     | (go_at_call 124; with_reducible refine HC.out.mono ?_; rintro e w1 ⟨rfl, H1⟩; have H1 := tHid H1))
    first | exact HF3.out _ (H1.out.alloc _) | (go_ret; exact HF3.out _ (H1.out.alloc _))
   | ok x m =>
    rw [hr] at HC;have hb3 := rc1_ok hr;rw [List.length_drop, hbn] at hb3;have HP : Hid (∀ V, Nw wr V → ∃ v' W, Hid (∀ ty, (Builtin.append_ #[34, 34] ty #[v5, .slice (some ⟨V.heap.size, 0, none⟩) 1 1]).run Tryz.prog (V.alloc (.cells (prC x) 56)) = .ok v' W) ∧ PaI w b (I + m) v' W) := fun V hV => (HI.out.nw hV).push hlt' (by omega) x m hr
    obtain ⟨K, hK⟩ : ∃ K, I + m = K := ⟨_, rfl⟩;have hKi : (I : Int) + (m : Int) = (K : Int) := by omega
    rw [hK] at HP;have hKn : K ≤ n := by omega
    have hKI : I < K := by omega
    have hmn : m ≤ n := by omega
    simp only [rxV] at HC;obtain ⟨xk, hxk⟩ : ∃ s, str x.1 = s := ⟨_, rfl⟩;obtain ⟨xv, hxv⟩ : ∃ s, str x.2 = s := ⟨_, rfl⟩;have hpc : prC x = #[.string xk, .string xv] := by rw [← hxk, ← hxv]; rfl
    rw [hpc] at HC HP;clear HF1 HF2 hr hb3 hK hlt' hbn hS hS1 hNw hxk hxv hpc HI;go_upto_region 7 with (first
     | (go_at_call 124; with_reducible refine HC.out.mono ?_; rintro e w1 ⟨rfl, H1⟩; have H1 := tHid H1))
    obtain ⟨W2, hW2⟩ : ∃ W2, w1.alloc (.cells #[.string xk, .string xv] 56) = W2 := ⟨_, rfl⟩;have hpb : W2.heap[w1.heap.size]? = some (.cells #[.string xk, .string xv] 56) := by rw [← hW2]; exact newHeapJ _ _
    have c0 : W2.cell? ⟨w1.heap.size, 0, none⟩ = some (.string xk) := by unfold World.cell?; rw [hpb]; rfl
    have c1 : W2.cell? ⟨w1.heap.size, 1, none⟩ = some (.string xv) := by unfold World.cell?; rw [hpb]; rfl
    obtain ⟨v', W3, HA, HI3⟩ := HP.out W2 (by rw [← hW2]; exact H1.out.alloc _);have HI3 := tHid HI3;rw [hW2];clear hW2 hpb HP HC
    go_wp2_with (first
     | (at_builtin; refine Lib.wpList_append_run _ rfl _ _ 34 34 rfl v5 (.slice (some ⟨W2.heap.size, 0, none⟩) 1 1) (by first | rfl | simp [Act.eval]) (by first | rfl | simp [Act.eval]) _ _ (HA.out _) ?_))
    go_roundg (n - K)
    case measure => omega
    case rel => exact ⟨K, _, by omega, by omega, rfl, by first | rfl | (congr 1), HI3⟩
  ·have HF3 := tHid (HF1.out I _ wr HI.out (by omega));obtain rfl : I = n := by omega
   clear HF1 HF2 HI hS hbn
   go_wp2_with fail
   first | exact HF3.out | (go_ret; exact HF3.out)
theorem rp_at {X : Nat → Prop} {a : Option Addr} {n c : Nat} {l : List Pr} {w : World} (h : SlR RP X (.slice a n c) l w) (i : Nat) (hx : i < l.length) : ∃ g o, a = some ⟨g, o, none⟩ ∧ ¬ X g ∧ w.cell? ⟨g, o + i * 2, none⟩ = some (.string (str (l[i]'hx).1)) ∧ w.cell? ⟨g, o + i * 2 + 1, none⟩ = some (.string (str (l[i]'hx).2)) := by
 obtain ⟨g, o, e, hg, hc⟩ := h.at i l[i] (List.getElem?_eq_getElem hx);have h0 := hc 0 _ rfl;have h1 := hc 1 _ rfl;simp only [RP, Nat.add_zero] at h0 h1;exact ⟨g, o, e, hg, h0, h1⟩
def fndV (l : List Pr) (k : Bs) : Option Bs := l.foldl (fun a x => if x.1 = k then some x.2 else a) none
theorem fndV_snoc (l : List Pr) (x : Pr) (k : Bs) : fndV (l ++ [x]) k = if x.1 = k then some x.2 else fndV l k := by simp [fndV]
theorem fndV_take (l : List Pr) (k : Bs) (K : Nat) (h : K < l.length) : fndV (l.take (K + 1)) k = if l[K].1 = k then some l[K].2 else fndV (l.take K) k := by
 rw [List.take_add_one, List.getElem?_eq_getElem h, Option.toList_some, fndV_snoc]
def fdV (o : Option Bs) : Value := match o with
 | none => .tuple #[.string ⟨#[]⟩, .bool false]
 | some v => .tuple #[.string (str v), .bool true]
section
variable {w : World}
def bys (s : ByteArray) : List By := s.data.toList.map (fun x => BitVec.ofNat 8 x.toNat)
theorem bys_length (s : ByteArray) : (bys s).length = s.size := by
 unfold bys;rw [List.length_map];rfl
theorem strCells_bys (s : ByteArray) : Lib.strCells s = (bys s).map bv := by
 unfold Lib.strCells bys bv;rw [List.map_map];apply List.map_congr_left;intro x _;have := x.toNat_lt;simp only [Function.comp, BitVec.toNat_ofNat];congr 1;omega
theorem app_str (w : World) (g : Nat) (v : Value) (l : List By) (hO : Ow g v l w) (s : ByteArray) (hb : l.length + s.size ≤ 200000000000000) :
  ∃ v' g' W, (∀ ty, (Builtin.append_ #[22, 9] ty #[v, .string s]).run Tryz.prog w = .ok v' W) ∧ Ow g' v' (l ++ bys s) W ∧ Fr (fun k => k = g) w W ∧ (g' = g ∨ w.heap.size ≤ g') := by
 obtain ⟨xs, rfl, h2, h3, h4, h5⟩ := hO;obtain ⟨i, hi, hz, hs, hby⟩ := infoB;have hlen := bys_length s;by_cases hroom : l.length + s.size ≤ xs.length
 ·have hrun := fun ty => Lib.run_append_room_string (P := Tryz.prog) w 22 9 ty 5 i Tryz.underlying22 Tryz.underlying9 hi hs g l.length xs.length (xs.map bv).toArray h5 s hroom (by simpa using hroom)
  refine ⟨_, g, _, hrun, ?_, (Fr.refl _ _).setRow _ _ (.inl rfl), .inl rfl⟩;have e : ((xs.map bv).toArray.toList.take l.length ++ Lib.strCells s ++ (xs.map bv).toArray.toList.drop (l.length + s.size)).toArray = ((l ++ bys s ++ xs.drop (l.length + s.size)).map bv).toArray := by
   rw [strCells_bys];simp only [List.map_append];rw [← List.map_take, ← List.map_drop, h2]
  rw [e];refine ⟨l ++ bys s ++ xs.drop (l.length + s.size), ?_, ?_, ?_, ?_, ?_⟩
  ·simp [hlen]; omega
  ·rw [List.take_append_of_le_length (by simp), List.take_of_length_le (by simp)]
  ·simp
  ·simp [hlen]; omega
  ·exact setRow_heap w g _ _ 5 _ h5
 ·have hrun := fun ty => Lib.run_append_grow_string (P := Tryz.prog) w 22 9 ty 5 i _ Tryz.underlying22 Tryz.underlying9 hi hz ⟨g, 0, none⟩ l.length xs.length (l.map bv) (by rw [hs]; simp) (fun j u hj => by
   rw [add_addr];simp only [List.getElem?_map, Option.map_eq_some_iff] at hj;obtain ⟨b, hb, rfl⟩ := hj;have hr := h5.rd.take l.length;rw [h2] at hr;exact hr.at j b hb) s (by omega) (by omega) (by rw [hby]; exact growslice_fits_wide (by omega) (by omega))
  have hge := grownCap_ge w (l.length + s.size) xs.length 5;have hle := grownCap_le_maxLen w (l.length + s.size) xs.length 5 (by unfold maxLen; omega);unfold maxLen at hle;generalize grownCap w (l.length + s.size) xs.length 5 = G at *;refine ⟨_, w.heap.size, _, hrun, ?_, (Fr.refl _ _).drew.alloc _, .inr (Nat.le_refl _)⟩;have e : ((l.map bv).toArray ++ (Lib.strCells s).toArray ++ Builtin.zeroCells (Value.int .u8 0).cells (G - (l.length + s.size))) = ((l ++ bys s ++ List.replicate (G - (l.length + s.size)) 0#8).map bv).toArray := by
   rw [zeroB, strCells_bys]; simp
  rw [e];refine ⟨l ++ bys s ++ List.replicate (G - (l.length + s.size)) 0#8, ?_, ?_, ?_, ?_, ?_⟩
  ·simp [hlen]; omega
  ·rw [List.take_append_of_le_length (by simp), List.take_of_length_le (by simp)]
  ·simp
  ·simp [hlen]; omega
  ·show (w.drew.heap.push _)[w.heap.size]? = _;show (w.heap.push _)[w.heap.size]? = _;simp
end
def GR : Pr := ([103#8, 114#8, 111#8, 119#8, 110#8], [])
end Go.Proofs.YtlenihpbhlfcoaaGreatDoor
namespace Go.Proofs.YtlenihpbhlfcoaaGreatDoor
open Go.RowKit
def ltB (a b : Bs) : Bool := Op.bytesLess (str a).toList (str b).toList
def plc (x : Pr) : List Pr → Nat
 | [] => 0
 | y :: r => if ltB y.1 x.1 = true then plc x r + 1 else 0
theorem plc_le (x : Pr) (l : List Pr) : plc x l ≤ l.length := by
 induction l with
 | nil => exact Nat.le_refl _
 | cons y r ih =>
  rw [plc];split
  ·simp; exact ih
  ·simp
def insP (x : Pr) (l : List Pr) : List Pr := l.take (plc x l) ++ x :: l.drop (plc x l)
theorem insP_len (x : Pr) (l : List Pr) : (insP x l).length = l.length + 1 := by
 unfold insP;have := plc_le x l;rw [List.length_append, List.length_cons, List.length_take, List.length_drop];omega
def lst (x : Pr) (r : List Pr) : Bool := r.all (fun y => decide (y.1 ≠ x.1))
def mrg : List Pr → List Pr → List Pr
 | [], out => out
 | x :: r, out => if lst x r = true ∧ x.2 ≠ [] then mrg r (insP x out) else mrg r out
def mergeV (b a : List Pr) : List Pr := mrg (b ++ a) []
theorem less_lt (x y : List UInt8) : Op.bytesLess x y = decide (x < y) := by
 induction x generalizing y with
 | nil =>
  cases y with
  | nil => simp [Op.bytesLess]
  | cons b y => simp [Op.bytesLess]
 | cons a x ih =>
  cases y with
  | nil => simp [Op.bytesLess]
  | cons b y =>
   rw [Op.bytesLess, ih y];by_cases h1 : a < b
   ·simp [h1, List.cons_lt_cons_iff]
   ·by_cases h2 : a = b
    ·subst h2; simp
    ·simp [h1, h2, List.cons_lt_cons_iff]
theorem ltB_lt (a b : Bs) : ltB a b = decide ((str a).toList < (str b).toList) := less_lt _ _
def Rise (l : List Pr) : Prop := l.Pairwise (fun x y => (str x.1).toList < (str y.1).toList)
theorem lt_tr {a b c : List UInt8} (h : a < b) (k : b < c) : a < c := List.lt_trans h k
theorem lt_ir (a : List UInt8) : ¬ a < a := List.lt_irrefl a
theorem strL_inj {a b : Bs} (h : (str a).toList = (str b).toList) : a = b := by
 have := str_beqJ a b;rw [h] at this
 simpa using this
theorem lt_or {a b : Bs} (h : ¬ (str a).toList < (str b).toList) (hne : a ≠ b) : (str b).toList < (str a).toList := by
 by_cases h2 : (str b).toList < (str a).toList
 ·exact h2
 ·exact absurd (strL_inj (List.le_antisymm (List.not_lt.1 h2) (List.not_lt.1 h))) hne
theorem plc_ahead (x : Pr) (l : List Pr) : ∀ y ∈ l.take (plc x l), (str y.1).toList < (str x.1).toList := by
 induction l with
 | nil => simp
 | cons z r ih =>
  rw [plc];split
  ·rename_i hz;intro y hy;rw [List.take_succ_cons, List.mem_cons] at hy;rcases hy with rfl | hy
   ·rw [ltB_lt] at hz;exact of_decide_eq_true hz
   ·exact ih y hy
  ·simp
theorem plc_behind (x : Pr) (l : List Pr) (hr : Rise l) (hne : ∀ y ∈ l, y.1 ≠ x.1) : ∀ y ∈ l.drop (plc x l), (str x.1).toList < (str y.1).toList := by
 induction l with
 | nil => simp
 | cons z r ih =>
  have hr2 : Rise r := (List.pairwise_cons.1 hr).2;rw [plc];split
  ·exact ih hr2 (fun y hy => hne y (by simp [hy]))
  ·rename_i hz;rw [ltB_lt] at hz;have hz2 : ¬ (str z.1).toList < (str x.1).toList := fun h => hz (decide_eq_true h)
   have hxz := lt_or hz2 (hne z (by simp));intro y hy;rw [List.drop_zero, List.mem_cons] at hy;rcases hy with rfl | hy
   ·exact hxz
   ·exact lt_tr hxz ((List.pairwise_cons.1 hr).1 y hy)
theorem insP_rise (x : Pr) (l : List Pr) (hr : Rise l) (hne : ∀ y ∈ l, y.1 ≠ x.1) : Rise (insP x l) := by
 unfold insP Rise;have h1 := plc_ahead x l;have h2 := plc_behind x l hr hne;have hr' : (l.take (plc x l) ++ l.drop (plc x l)).Pairwise (fun x y => (str x.1).toList < (str y.1).toList) := by rw [List.take_append_drop]; exact hr
 rw [List.pairwise_append] at hr' ⊢;refine ⟨hr'.1, List.pairwise_cons.2 ⟨h2, hr'.2.1⟩, fun y hy z hz => ?_⟩;rcases List.mem_cons.1 hz with rfl | hz
 ·exact h1 y hy
 ·exact hr'.2.2 y hy z hz
theorem insP_mem (x : Pr) (l : List Pr) (y : Pr) : y ∈ insP x l ↔ y = x ∨ y ∈ l := by
 unfold insP;have : y ∈ l ↔ y ∈ l.take (plc x l) ∨ y ∈ l.drop (plc x l) := by rw [← List.mem_append, List.take_append_drop]
 rw [List.mem_append, List.mem_cons, this];constructor
 ·rintro (h | h | h)
  ·exact .inr (.inl h)
  ·exact .inl h
  ·exact .inr (.inr h)
 ·rintro (h | h | h)
  ·exact .inr (.inl h)
  ·exact .inl h
  ·exact .inr (.inr h)
theorem fnd_from (l : List Pr) (k : Bs) (a : Option Bs) : l.foldl (fun a x => if x.1 = k then some x.2 else a) a = (fndV l k).or a := by
 unfold fndV
 induction l generalizing a with
 | nil => rfl
 | cons y r ih =>
  rw [List.foldl_cons, List.foldl_cons, ih, ih (if y.1 = k then some y.2 else none)];cases List.foldl (fun a (x : Pr) => if x.1 = k then some x.2 else a) none r with
  | some v => rfl
  | none => by_cases h : y.1 = k <;> simp [h]
theorem fnd_cons (x : Pr) (r : List Pr) (k : Bs) : fndV (x :: r) k = (fndV r k).or (if x.1 = k then some x.2 else none) := by
 have := fnd_from r k (if x.1 = k then some x.2 else none);rw [← this];rfl
theorem fnd_none (r : List Pr) (k : Bs) : fndV r k = none ↔ ∀ y ∈ r, y.1 ≠ k := by
 induction r with
 | nil => simp [fndV]
 | cons x r ih =>
  rw [fnd_cons, Option.or_eq_none_iff, ih];constructor
  ·rintro ⟨h1, h2⟩ y hy;rcases List.mem_cons.1 hy with rfl | hy
   ·intro e;rw [if_pos e] at h2;cases h2
   ·exact h1 y hy
  ·intro h;exact ⟨fun y hy => h y (by simp [hy]), if_neg (h x (by simp))⟩
theorem lst_iff (x : Pr) (r : List Pr) : lst x r = true ↔ ∀ y ∈ r, y.1 ≠ x.1 := by simp [lst]
theorem mrg_spec (r out : List Pr) (hr : Rise out) (hd : ∀ y ∈ out, ∀ z ∈ r, z.1 ≠ y.1) : Rise (mrg r out) ∧ ∀ y, y ∈ mrg r out ↔ y ∈ out ∨ (fndV r y.1 = some y.2 ∧ y.2 ≠ []) := by
 induction r generalizing out with
 | nil => exact ⟨hr, fun y => by simp [mrg, fndV]⟩
 | cons x r ih =>
  rw [mrg];by_cases hl : lst x r = true
  ·have hl2 := (lst_iff x r).1 hl;have hx0 := (fnd_none r x.1).2 hl2;by_cases hv : x.2 ≠ []
   ·rw [if_pos ⟨hl, hv⟩];obtain ⟨i1, i2⟩ := ih (insP x out) (insP_rise x out hr (fun y hy e => hd y hy x (by simp) e.symm)) (fun y hy z hz => by
     rcases (insP_mem x out y).1 hy with rfl | hy
     ·exact hl2 z hz
     ·exact hd y hy z (by simp [hz]))
    refine ⟨i1, fun y => ?_⟩;rw [i2, insP_mem, fnd_cons];constructor
    ·rintro ((rfl | h) | ⟨h1, h2⟩)
     ·exact .inr ⟨by rw [hx0, if_pos rfl]; rfl, hv⟩
     ·exact .inl h
     ·exact .inr ⟨by rw [h1]; rfl, h2⟩
    ·rintro (h | ⟨h1, h2⟩)
     ·exact .inl (.inr h)
     ·by_cases hk : x.1 = y.1
      ·rw [← hk, hx0, if_pos rfl] at h1;injection h1 with h1;exact .inl (.inl (Prod.ext hk.symm h1.symm))
      ·rw [if_neg hk, Option.or_none] at h1;exact .inr ⟨h1, h2⟩
   ·rw [if_neg (fun h => hv h.2)];obtain ⟨i1, i2⟩ := ih out hr (fun y hy z hz => hd y hy z (by simp [hz]));refine ⟨i1, fun y => ?_⟩;rw [i2, fnd_cons];have hv0 : x.2 = [] := Classical.byContradiction hv;constructor
    ·rintro (h | ⟨h1, h2⟩)
     ·exact .inl h
     ·exact .inr ⟨by rw [h1]; rfl, h2⟩
    ·rintro (h | ⟨h1, h2⟩)
     ·exact .inl h
     ·by_cases hk : x.1 = y.1
      ·rw [← hk, hx0, if_pos rfl] at h1;injection h1 with h1;exact absurd (h1.symm.trans hv0) h2
      ·rw [if_neg hk, Option.or_none] at h1;exact .inr ⟨h1, h2⟩
  ·rw [if_neg (fun h => hl h.1)];obtain ⟨i1, i2⟩ := ih out hr (fun y hy z hz => hd y hy z (by simp [hz]));refine ⟨i1, fun y => ?_⟩;have hsome : fndV (x :: r) y.1 = fndV r y.1 := by
    rw [fnd_cons];by_cases hk : x.1 = y.1
    ·cases hf : fndV r y.1 with
     | some v => rfl
     | none =>
      rw [← hk] at hf;exact absurd ((lst_iff x r).2 ((fnd_none r x.1).1 hf)) hl
    ·rw [if_neg hk, Option.or_none]
   rw [i2, hsome]
theorem rise_ext (l m : List Pr) (hl : Rise l) (hm : Rise m) (h : ∀ y, y ∈ l ↔ y ∈ m) : l = m := by
 induction l generalizing m with
 | nil =>
  cases m with
  | nil => rfl
  | cons y m => exact absurd ((h y).2 (by simp)) (by simp)
 | cons x l ih =>
  cases m with
  | nil => exact absurd ((h x).1 (by simp)) (by simp)
  | cons y m =>
   obtain ⟨l1, l2⟩ := List.pairwise_cons.1 hl;obtain ⟨m1, m2⟩ := List.pairwise_cons.1 hm;have hxy : x = y := by
    rcases List.mem_cons.1 ((h x).1 (by simp)) with e | e
    ·exact e
    ·rcases List.mem_cons.1 ((h y).2 (by simp)) with e2 | e2
     ·exact e2.symm
     ·exact absurd (lt_tr (l1 y e2) (m1 x e)) (lt_ir _)
   subst hxy;rw [ih m l2 m2 (fun z => ?_)];constructor
   ·intro hz;rcases List.mem_cons.1 ((h z).1 (by simp [hz])) with rfl | e
    ·exact absurd (l1 z hz) (lt_ir _)
    ·exact e
   ·intro hz;rcases List.mem_cons.1 ((h z).2 (by simp [hz])) with rfl | e
    ·exact absurd (m1 z hz) (lt_ir _)
    ·exact e
end Go.Proofs.YtlenihpbhlfcoaaGreatDoor
