import Derived.Test.YtlenihpbhlfcoaaGreatDoorUai
set_option maxHeartbeats 8000000
set_option maxRecDepth 100000
set_option linter.unusedSimpArgs false
set_option linter.unusedVariables false
namespace Go.Proofs.YtlenihpbhlfcoaaGreatDoor
open Go.RowKit
def isEz (x : By) : Bool := decide (x = 61#8 ∨ x = 0#8)
def SS : Array Value := Lib.setCells [61, 0]
theorem ss_size : SS.size = 256 := Lib.setCells_size _
theorem q_ss : ∀ (x : By), ((UInt8.ofBitVec x == 61) || (UInt8.ofBitVec x == 0)) = decide (x = 61#8 ∨ x = 0#8) := by decide +kernel
theorem ss_at (x : By) : SS[x.toNat]? = some (.bool (isEz x)) := by
 unfold SS;have h := Lib.setCells_at [61, 0] (UInt8.ofBitVec x);have e : (UInt8.ofBitVec x).toNat = x.toNat := rfl;rw [e] at h;rw [h, List.contains_cons, List.contains_cons, List.contains_nil, Bool.or_false, q_ss];rfl
theorem newHeapJ (w : World) (o : Obj) : (w.alloc o).heap[w.heap.size]? = some o := by
 show (w.heap.push o)[w.heap.size]? = some o;simp
theorem ss_one : SS.all (·.oneCell') = true := Lib.setCells_one _
theorem ss_info : (Tryz.prog.info? 249).map (·.size) = some SS.size := by rw [ss_size]; kernel_rfl
theorem zcS : Tryz.zeroCells249 = Lib.setCells ([] : List UInt8) := by
 kernel_rfl
theorem smk_any (w : World) : Calls Tryz.prog 176 #[.string EZ] w fun e w' => e = .returned (.tuple #[.agg SS, .bool true]) ∧ w' = w.alloc (.cells SS 249) := by
 refine asP fun P hP => ?_
 have HF : Hid (P (.returned (.tuple #[.agg SS, .bool true])) (w.alloc (.cells SS 249))) := by rw [hP]; exact ⟨rfl, rfl⟩
 clear hP;obtain ⟨cs, hcs⟩ : ∃ cs : ByteArray, cs = ⟨#[61, 0]⟩ := ⟨_, rfl⟩;show Calls Tryz.prog 176 #[.string ⟨#[61, 0]⟩] w P;rw [← hcs];have hsz : cs.size = 2 := by rw [hcs]; rfl
 have e0 : ∀ h, (cs[0]'h).toNat = 61 := by subst hcs; intro h; rfl
 have e1 : ∀ h, (cs[1]'h).toNat = 0 := by subst hcs; intro h; rfl
 clear hcs
 skip
 go_enter Tryz.func176, Tryz.ntmps176
 go_wp2
 rw [zcS];go_loopg [4] 2 (fun g s4 wx => ∃ i : Nat, i + g = 2 ∧ s4 = .int .i64 i ∧ wx = w.alloc (.cells (Lib.setCells (([61, 0] : List UInt8).take i)) 249))
 case atStart => exact ⟨0, by omega, rfl, rfl⟩
 case round =>
  obtain ⟨i, hig, rfl, rfl⟩ := hrel;cases gk with
  | zero =>
   obtain rfl : i = 2 := by omega
   have hAS : Lib.setCells (([61, 0] : List UInt8).take 2) = SS := rfl;rw [hAS];have hld := run_loadVar_new (P := Tryz.prog) w 249 SS 256 4 Tryz.underlying249 ss_info
   go_wp2_with (first
    | (refine wpList_load_row rfl 249 _ rfl w.heap.size (by first | rfl | simp [Act.eval]) 249 SS (0, 0) _ (newHeapJ w _) Tryz.underlying249 rfl ss_info ?_)
    | (refine wpList_store_row rfl 249 _ _ rfl w.heap.size SS (by first | rfl | simp [Act.eval]) (by first | rfl | simp [Act.eval]) 249 SS (newHeapJ w _) ss_info rfl ss_one ?_; rw [World.setRow_alloc_new]))
   (try simp only [Exit.inBlock, Exit.then])
   refine bodyPost_ret (v := .tuple #[.agg SS, .bool true]) ?_ rfl HF.out;rw [results_cell_tmp rfl];simp [asAddr, Result.andThen, hld]
  | succ g =>
   have hi : i = 0 ∨ i = 1 := by omega
   rcases hi with rfl | rfl
   ·have hcell : (Lib.setCells (([61, 0] : List UInt8).take 0))[61]? = some (.bool false) := Lib.setCells_at [] 61;generalize hC : Lib.setCells (([61, 0] : List UInt8).take 0) = C at *;have HC : Hid (C.setIfInBounds 61 (.bool true) = Lib.setCells (([61, 0] : List UInt8).take 1)) := by rw [← hC]; rfl
    clear hC
    go_wp2
    go_roundg g
    case measure => omega
    case rel => exact ⟨1, by omega, by first | rfl | simp, by rw [HC.out]⟩
   ·have hcell : (Lib.setCells (([61, 0] : List UInt8).take 1))[0]? = some (.bool false) := Lib.setCells_at [61] 0;generalize hC : Lib.setCells (([61, 0] : List UInt8).take 1) = C at *;have HC : Hid (C.setIfInBounds 0 (.bool true) = Lib.setCells (([61, 0] : List UInt8).take 2)) := by rw [← hC]; rfl
    clear hC
    go_wp2
    go_roundg g
    case measure => omega
    case rel => exact ⟨2, by omega, by first | rfl | simp, by rw [HC.out]⟩
theorem sHas_any (b : Nat) (x : By) (w : World) (hw : w.heap[b]? = some (.cells SS 249)) :
  Calls Tryz.prog 210 #[.pointer (some ⟨b, 0, none⟩), .int .u8 x.toNat] w fun e w' => e = .returned (.bool (isEz x)) ∧ w = w' := by
 refine asP fun P hP => ?_
 have HF : Hid (P (.returned (.bool (isEz x))) w) := by rw [hP]; exact ⟨rfl, rfl⟩
 clear hP;have hc : w.cell? ⟨b, x.toNat, none⟩ = some (.bool (isEz x)) := by
  have := ss_at x;simp only [World.cell?, hw]
  simpa using this
 have hx256 : (x.toNat : Int) < 256 := by have := x.isLt; omega
 clear hw;generalize isEz x = v at *;generalize x.toNat = y at *;go_enter Tryz.func210, Tryz.ntmps210
 go_wp2
 exact HF.out
theorem sUse_any (n : Nat) (hn : n < 9223372036854775808) (w : World) : Calls Tryz.prog 235 #[.int .i64 n] w fun e w' => e = .returned (.bool (decide (8 < n))) ∧ w = w' := by
 refine asP fun P hP => ?_
 by_cases h : 8 < n
 ·have HF : Hid (P (.returned (.bool true)) w) := by rw [hP]; exact ⟨by rw [decide_eq_true h], rfl⟩
  have h' : (8 : Int) < (n : Int) := by omega
  clear hP;go_enter Tryz.func235, Tryz.ntmps235
  go_wp2
  exact HF.out
 ·have HF : Hid (P (.returned (.bool false)) w) := by rw [hP]; exact ⟨by rw [decide_eq_false h], rfl⟩
  have h' : ¬ (8 : Int) < (n : Int) := by omega
  clear hP;go_enter Tryz.func235, Tryz.ntmps235
  go_wp2
  exact HF.out
def anyEz (l : Bs) : Bool := decide (61#8 ∈ l) || decide (0#8 ∈ l)
theorem anyEz_some {l : Bs} {j : Nat} (h : j < l.length) (he : isEz l[j] = true) : anyEz l = true := by
 unfold isEz at he;have hm := List.getElem_mem h;unfold anyEz;rcases of_decide_eq_true he with e | e
 ·rw [e] at hm; rw [decide_eq_true hm, Bool.true_or]
 ·rw [e] at hm; rw [decide_eq_true hm, Bool.or_true]
theorem anyEz_none {l : Bs} (h : ∀ j, (hj : j < l.length) → isEz l[j] = false) : anyEz l = false := by
 unfold anyEz;have key : ∀ c : By, isEz c = true → c ∉ l := fun c hc hm => by
  obtain ⟨j, hj, e⟩ := List.getElem_of_mem hm;have := h j hj;rw [e, hc] at this;cases this
 rw [decide_eq_false (key 61#8 (by decide)), decide_eq_false (key 0#8 (by decide))];rfl
theorem isEz_hi (x : By) (h : 128 ≤ x.toNat) : isEz x = false := by
 unfold isEz;apply decide_eq_false;rintro (e | e) <;> (subst e; revert h; decide)
theorem isEz_nat (x : By) : isEz x = true ↔ x.toNat = 61 ∨ x.toNat = 0 := by
 unfold isEz;rw [decide_eq_true_iff];constructor
 ·rintro (e | e) <;> subst e
  ·left; rfl
  ·right; rfl
 ·rintro (e | e)
  ·left; exact BitVec.eq_of_toNat_eq e
  ·right; exact BitVec.eq_of_toNat_eq e
theorem iany_any (l : Bs) (hl : l.length ≤ 140737488351232) (w : World) : Calls Tryz.prog 227 #[.string (str l), .string EZ] w fun e w' => ∃ v : Int, e = .returned (.int .i64 v) ∧ Hid (decide (0 ≤ v) = anyEz l ∧ Nw w w') := by
 refine asP fun P hP => ?_
 have HFy : Hid (∀ (j : Nat) W, (hj : j < l.length) → isEz l[j] = true → Nw w W → P (.returned (.int .i64 (j : Nat))) W) := fun j W hj h1 h2 => by
  rw [hP]; exact ⟨_, rfl, by rw [anyEz_some hj h1]; exact decide_eq_true (by omega), h2⟩
 have HFn : Hid (∀ W, (∀ j, (hj : j < l.length) → isEz l[j] = false) → Nw w W → P (.returned (.int .i64 (-1))) W) := fun W h1 h2 => by
  rw [hP]; exact ⟨_, rfl, by rw [anyEz_none h1]; rfl, h2⟩
 clear hP;have hez := ez_size;have hezn := ez_ne;have hsz : (str l).size = l.length := str_size l;have HU := tHid (sUse_any l.length (by omega) w);have HS := tHid hsz;by_cases h8 : 8 < l.length
 ·rw [decide_eq_true h8] at HU;have HM := tHid (smk_any w);have hN2 : Nw w ((w.alloc (.cells SS 249)).alloc (.cells SS 249)) := ((Fr.refl _ _).alloc _).alloc _;have HN2 := tHid hN2;have hsz1 : (w.alloc (.cells SS 249)).heap.size = w.heap.size + 1 := by simp
  have HW : Hid (((w.alloc (.cells SS 249)).alloc (.cells Tryz.zeroCells249 249)).heap[w.heap.size + 1]? = some (.cells Tryz.zeroCells249 249)) := by
   show _ = _;rw [← hsz1]; exact newHeapJ _ _
  have HST : Hid (((w.alloc (.cells SS 249)).alloc (.cells Tryz.zeroCells249 249)).setRow (w.heap.size + 1) SS = (w.alloc (.cells SS 249)).alloc (.cells SS 249)) := by
   show _ = _;rw [← hsz1]; exact World.setRow_alloc_new _ _ _ _
  have HZS : Hid (Tryz.zeroCells249.size = SS.size) := by show _ = _; rw [zcS, Lib.setCells_size, ss_size]
  have hnew2 : ((w.alloc (.cells SS 249)).alloc (.cells SS 249)).heap[w.heap.size + 1]? = some (.cells SS 249) := by
   rw [← hsz1]; exact newHeapJ _ _
  have HC := tHid (fun x : By => sHas_any (w.heap.size + 1) x _ hnew2);have hget : Hid (∀ j (h : j < (str l).size) (h' : j < l.length), ((str l)[j]'h).toNat = (l[j]'h').toNat) := fun j h h' => str_get l j h
  generalize str l = s at *;clear hN2 hnew2 hsz1
  skip
  go_enter Tryz.func227, Tryz.ntmps227
  go_wp2_with (first
   | (go_at_call 235; with_reducible refine HU.out.mono ?_; rintro e w1 ⟨rfl, rfl⟩)
   | (go_at_call 176; with_reducible refine HM.out.mono ?_; rintro e w1 ⟨rfl, rfl⟩)
   | (refine wpList_store_row rfl 249 _ _ rfl (w.heap.size + 1) SS (by first | rfl | simp [Act.eval]) (by first | rfl | simp [Act.eval]) 249 _ HW.out ss_info HZS.out ss_one ?_; rw [HST.out]))
  obtain ⟨V, hV⟩ : ∃ V, (w.alloc (.cells SS 249)).alloc (.cells SS 249) = V := ⟨_, rfl⟩;rw [hV] at HN2 HC;rw [hV];clear hV HM HU HW HST HZS;go_loopg [8] l.length (fun kx v wr => ∃ I : Nat, I ≤ l.length ∧ l.length - I ≤ kx ∧ v = .int .i64 I ∧ wr = V ∧ Hid (∀ j, j < I → (hj : j < l.length) → isEz l[j] = false))
  case atStart => exact ⟨0, by omega, by omega, rfl, rfl, fun j h => by omega⟩
  case round =>
   obtain ⟨I, hI, hkx, rfl, hw, HV⟩ := hrel;have hw' := hw.symm;subst hw';clear hw;by_cases hlt : I < l.length
   ·have hlt' : I < s.size := by rw [HS.out]; exact hlt
    have hg := hget.out I hlt' hlt;have HCx := tHid (HC.out l[I]);cases hx : isEz l[I] with
    | true =>
     rw [hx] at HCx;have HF2 := tHid (HFy.out I V hlt hx HN2.out);clear HFy HFn HV HC HN2 hx hget;generalize l[I].toNat = x at *
     go_wp2_with (first | (go_at_call 210; with_reducible refine HCx.out.mono ?_; rintro e w1 ⟨rfl, rfl⟩))
     first | exact HF2.out | (go_ret; exact HF2.out)
    | false =>
     rw [hx] at HCx;have HV2 : Hid (∀ j, j < I + 1 → (hj : j < l.length) → isEz l[j] = false) := fun j hj hj' => by
      by_cases hji : j = I
      ·subst hji; exact hx
      ·exact HV.out j (by omega) hj'
     clear HFy HFn HV HC HN2 hx hget;generalize l[I].toNat = x at *
     go_wp2_with (first | (go_at_call 210; with_reducible refine HCx.out.mono ?_; rintro e w1 ⟨rfl, rfl⟩))
     go_roundg (l.length - (I + 1))
     case measure => omega
     case rel => exact ⟨I + 1, by omega, by omega, by first | rfl | (congr 1), rfl, HV2⟩
   ·have HF2 := tHid (HFn.out V (fun j hj => HV.out j (by omega) hj) HN2.out);obtain rfl : I = l.length := by omega
    clear HFy HFn HV HC HN2 hget
    go_wp2_with fail
    first | exact HF2.out | (go_ret; exact HF2.out)
 ·rw [decide_eq_false h8] at HU;have hget : Hid (∀ j (h : j < (str l).size) (h' : j < l.length), ((str l)[j]'h).toNat = (l[j]'h').toNat) := fun j h h' => str_get l j h
  generalize str l = s at *;have HI := tHid (fun (r : Nat) h W => irune_any r h W);go_enter Tryz.func227, Tryz.ntmps227
  go_wp2_with (first | (go_at_call 235; with_reducible refine HU.out.mono ?_; rintro e w1 ⟨rfl, rfl⟩))
  go_loopg [] l.length (fun g wx => ∃ pos : Nat, pos ≤ l.length ∧ l.length - pos ≤ g ∧ Hid (wx.heap[w.heap.size]? = some (.stringIter s pos) ∧ Nw w wx ∧ ∀ j, j < pos → (hj : j < l.length) → isEz l[j] = false))
  case atStart => exact ⟨0, by omega, by omega, World.iter_heap w s 0, (Fr.refl _ _).alloc _, fun j h => by omega⟩
  case round =>
   obtain ⟨pos, hp, hkx, HV⟩ := hrel;obtain ⟨hit, hbw, hno⟩ := HV.out;by_cases hlt : pos < l.length
   ·have hlt' : pos < s.size := by rw [HS.out]; exact hlt
    have hnx : ∀ ty, (Instr.next (.pointer (some ⟨w.heap.size, 0, none⟩)) true ty).run Tryz.prog wr = _ := fun ty => Lib.run_next_any_at wr w.heap.size s pos ty hit hlt'
    have hg := hget.out pos hlt' hlt;obtain ⟨R, K, hRK⟩ : ∃ R K, Utf8.decode s pos = (R, K) := ⟨_, _, rfl⟩;have hfacts : (R < 128 ∨ (128 ≤ R ∧ R ≤ 1114111 ∧ Utf8.valid (R : Int) = true)) ∧ 1 ≤ K ∧ pos + K ≤ l.length ∧ ((R = 61 ∨ R = 0) ↔ isEz l[pos] = true) ∧ (isEz l[pos] = false → ∀ j, j < pos + K → (hj : j < l.length) → isEz l[j] = false) := by
     by_cases ha : (s[pos]'hlt').toNat < 128
     ·have hd := decode_ascii s pos hlt' ha;rw [hRK] at hd;injection hd with d1 d2;subst d1 d2;refine ⟨.inl ha, by decide, by omega, ?_, fun h j hj hj' => ?_⟩
      ·rw [isEz_nat, hg]
      ·by_cases hjp : j = pos
       ·subst hjp; exact h
       ·exact hno j (by omega) hj'
     ·have hs := hi_skip s pos hlt' (by omega);rw [hRK] at hs;obtain ⟨s1, s2, s3, s4, s5, s6⟩ := hs;rw [HS.out] at s5;have hhi : ∀ j, pos ≤ j → j < pos + K → (hj : j < l.length) → isEz l[j] = false := fun j h1 h2 hj => by
       apply isEz_hi
       have hj' : j < s.size := by rw [HS.out]; exact hj
       rw [← hget.out j hj' hj];have := s6 j h1 h2;rw [show s.get! j = s[j]'hj' from get_at s j hj'] at this;exact this
      refine ⟨.inr ⟨s1, s2, s3⟩, s4, s5, ?_, fun h j hj hj' => ?_⟩
      ·rw [hhi pos (Nat.le_refl _) (by omega) hlt];simp only at s1;constructor
       ·intro h; omega
       ·intro h; cases h
      ·by_cases hjp : pos ≤ j
       ·exact hhi j hjp hj hj'
       ·exact hno j (by omega) hj'
    rw [hRK] at hnx;simp only at hnx;obtain ⟨f1, f2, f3, f4, f5⟩ := hfacts;have hit2 := Lib.iterAt_heap wr w.heap.size s pos (pos + K) hit;have hbw2 := nw_iterAt hbw s (pos + K) (Nat.le_refl _);obtain ⟨W, hWd⟩ : ∃ W, wr.iterAt w.heap.size s (pos + K) = W := ⟨_, rfl⟩;rw [hWd] at hnx hit2 hbw2;have HIx := tHid (HI.out R f1 W);have hszW : w.heap.size < W.heap.size := (Array.getElem?_eq_some_iff.1 hit2).1;have hRm : R ≤ 1114111 := by omega
    cases hx : isEz l[pos] with
    | true =>
     have HF2 : Hid (∀ V, Nw W V → P (.returned (.int .i64 (pos : Nat))) V) := fun V hV => HFy.out pos V hlt hx (hbw2.trans hV)
     have hR := f4.2 hx;have HR := tHid hR;clear HFy HFn HV hit hbw hno hg hRK f1 f4 f5 hit2 hbw2 hWd hx hget HI hR hlt'
     go_wp2_with (first | (go_at_call 231; with_reducible refine HIx.out.mono ?_; rintro e w1 ⟨v, rfl, H1⟩; have hv : (0 : Int) ≤ v := H1.out.1.2 HR.out))
     first | exact HF2.out _ H1.out.2 | (go_ret; exact HF2.out _ H1.out.2)
    | false =>
     have hR : ¬ (R = 61 ∨ R = 0) := fun h => by rw [f4.1 h] at hx; cases hx
     have HR : Hid (∀ v : Int, (0 ≤ v ↔ R = 61 ∨ R = 0) → decide (0 ≤ v) = false) := fun v hv => decide_eq_false (fun q => hR (hv.1 q))
     have HV2 : Hid (∀ V, Nw W V → V.heap[w.heap.size]? = some (.stringIter s (pos + K)) ∧ Nw w V ∧ ∀ j, j < pos + K → (hj : j < l.length) → isEz l[j] = false) := fun V hV => ⟨hV.heap hit2, hbw2.trans hV, f5 hx⟩
     clear HFy HFn HV hit hbw hno hg hRK f1 f4 f5 hit2 hbw2 hWd hx hget HI hlt' hR
     go_wp2_with (first | (go_at_call 231; with_reducible refine HIx.out.mono ?_; rintro e w1 ⟨v, rfl, H1⟩; have hv := HR.out v H1.out.1))
     go_roundg (l.length - (pos + K))
     case measure => omega
     case rel => exact ⟨pos + K, by omega, by omega, HV2.out _ H1.out.2⟩
   ·have hlt' : ¬ pos < s.size := by rw [HS.out]; exact hlt
    have hnx : ∀ ty, (Instr.next (.pointer (some ⟨w.heap.size, 0, none⟩)) true ty).run Tryz.prog wr = _ := fun ty => Lib.run_next_end_at wr w.heap.size s pos ty hit hlt'
    have HF2 := tHid (HFn.out wr (fun j hj => hno j (by omega) hj) hbw);clear HFy HFn HV hit hbw hno hget HI hlt'
    go_wp2_with fail
    first | exact HF2.out | (go_ret; exact HF2.out)
theorem cany_any (l : Bs) (hl : l.length ≤ 140737488351232) (w : World) : Calls Tryz.prog 203 #[.string (str l), .string EZ] w fun e w' => e = .returned (.bool (anyEz l)) ∧ Nw w w' := by
 refine asP fun P hP => ?_
 have HF : Hid (∀ W, Nw w W → P (.returned (.bool (anyEz l))) W) := fun W hW => by rw [hP]; exact ⟨rfl, hW⟩
 have HI := tHid (iany_any l hl w);clear hP;generalize anyEz l = B at *;generalize str l = s at *;go_enter Tryz.func203, Tryz.ntmps203
 go_wp2_with (first | (go_at_call 227; with_reducible refine HI.out.mono ?_; rintro e w1 ⟨v, rfl, H1⟩; have hv := H1.out.1))
 first | exact HF.out _ H1.out.2 | (go_ret; exact HF.out _ H1.out.2)
end Go.Proofs.YtlenihpbhlfcoaaGreatDoor
