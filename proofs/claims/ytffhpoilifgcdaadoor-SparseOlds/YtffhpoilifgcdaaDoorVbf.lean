import Derived.Test.YtffhpoilifgcdaaDoorVbe
import Derived.Deep.MidRow
namespace Go.Proofs.YtffhpoilifgcdaaDoor
open Go.RowKit
set_option linter.unusedVariables false
/-! ### The table of a record: read -/
set_option maxHeartbeats 4000000 in
theorem kend_any (w : World) (f r : Nat) (hfr : f + r * 24 ≤ 1000) : Calls Tryd.prog 44 #[.agg #[.int .i64 (f : Int), .int .i64 (r : Int)]] w fun e w' => e = .returned (.int .i64 ((f + r * 24 : Nat) : Int)) ∧ Hid (Nw w w') := by
  obtain ⟨P, hP⟩ : ∃ P : Ending → World → Prop, P = fun e w' => e = .returned (.int .i64 ((f + r * 24 : Nat) : Int)) ∧ Hid (Nw w w') := ⟨_, rfl⟩
  rw [← hP]
  have HF : Hid (P (.returned (.int .i64 ((f + r * 24 : Nat) : Int))) (w.alloc (.cells #[.int .i64 (f : Int), .int .i64 (r : Int)] 62))) := by
    show P _ _
    rw [hP]; exact ⟨rfl, (Fr.refl _ _).alloc _⟩
  clear hP
  obtain ⟨E, hE⟩ : ∃ E, f + r * 24 = E := ⟨_, rfl⟩
  rw [hE] at HF hfr
  obtain ⟨M, hM⟩ : ∃ M, r * 24 = M := ⟨_, rfl⟩
  have h1 : (r : Int) * 24 = (M : Int) := by omega
  have h2 : (f : Int) + (M : Int) = (E : Int) := by omega
  have h3 : (M : Int) ≤ 1000 := by omega
  clear hE hM
  go_enter Tryd.func44, Tryd.ntmps44
  go_wp2_with fail
  first | exact HF.out | (go_ret; exact HF.out)
theorem hretF {f : Nat} {R : Ending → World → Prop} {a : Act} {w : World} {x y : Value} {fn : Func} (hres : fn.results = #[.cell 0 62]) (sb : Nat) (h1 : a.tmps.getD 0 undef = .pointer (some ⟨sb, 0, none⟩)) (hrow : w.heap[sb]? = some (.cells #[x, y] 62)) (hd : a.defers = []) (hR : R (.returned (.agg #[x, y])) w) : bodyPost Tryd.prog fn R .ret a w := by
  have hi : (Tryd.prog.info? 62).map (·.size) = some (#[x, y] : Array Value).size := by show _ = some 2; kernel_rfl
  have hl := run_loadVar_row (P := Tryd.prog) w sb 62 62 #[x, y] (0, 0) _ hrow Tryd.underlying62 rfl hi
  have hp' : a.tmps[0]?.getD undef = .pointer (some ⟨sb, 0, none⟩) := by simpa using h1
  refine bodyPost_ret ?_ hd hR
  simp [results, hp', asAddr, hl, hres]
set_option maxHeartbeats 4000000 in
theorem first_any (w : World) : Calls Tryd.prog 31 #[] w fun e w' => e = .returned (.agg #[.int .i64 386, .int .i64 4]) ∧ Hid (Nw w w') := by
  obtain ⟨P, hP⟩ : ∃ P : Ending → World → Prop, P = fun e w' => e = .returned (.agg #[.int .i64 386, .int .i64 4]) ∧ Hid (Nw w w') := ⟨_, rfl⟩
  rw [← hP]
  have HF : Hid (P (.returned (.agg #[.int .i64 386, .int .i64 4])) (w.alloc (.cells #[.int .i64 386, .int .i64 4] 62))) := by
    show P _ _
    rw [hP]; exact ⟨rfl, (Fr.refl _ _).alloc _⟩
  clear hP
  go_enter Tryd.func31, Tryd.ntmps31
  go_wp2_with fail
  first | exact HF.out | (go_ret; exact HF.out) | (exact hretF (f := 0) rfl _ rfl (nHeap _ _) rfl HF.out)
set_option maxHeartbeats 4000000 in
theorem further_any (w : World) : Calls Tryd.prog 34 #[] w fun e w' => e = .returned (.agg #[.int .i64 0, .int .i64 21]) ∧ Hid (Nw w w') := by
  obtain ⟨P, hP⟩ : ∃ P : Ending → World → Prop, P = fun e w' => e = .returned (.agg #[.int .i64 0, .int .i64 21]) ∧ Hid (Nw w w') := ⟨_, rfl⟩
  rw [← hP]
  have HF : Hid (P (.returned (.agg #[.int .i64 0, .int .i64 21])) (w.alloc (.cells #[.int .i64 0, .int .i64 21] 62))) := by
    show P _ _
    rw [hP]; exact ⟨rfl, (Fr.refl _ _).alloc _⟩
  clear hP
  go_enter Tryd.func34, Tryd.ntmps34
  go_wp2_with fail
  first | exact HF.out | (go_ret; exact HF.out) | (exact hretF (f := 0) rfl _ rfl (nHeap _ _) rfl HF.out)
end Go.Proofs.YtffhpoilifgcdaaDoor

namespace Go.Proofs.YtffhpoilifgcdaaDoor
open Go.RowKit
set_option linter.unusedVariables false
/-! ### The table of a record: read -/
def RcO (g : Nat) (R : List By) (w : World) : Prop := w.heap[g]? = some (.cells (rc R) 36)
theorem RcO.at {g : Nat} {R : List By} {w : World} (h : RcO g R w) (i : Nat) (hi : i < R.length) : w.cell? ⟨g, i, none⟩ = some (.int .u8 R[i].toNat) := by
  have e := rc_at R i hi
  unfold RcO at h
  simp [World.cell?, h, e]
theorem rc_eq (b : List By) : rc b = (b.map bv).toArray := rfl
theorem RcO.mid {g : Nat} {R : List By} {w : World} (h : RcO g R w) (hl : R.length = 512) (o n : Nat) (hon : o + n ≤ 512) : w.rangeAt g o (((R.drop o).take n).map bv) := by
  intro j v hv
  rw [List.getElem?_map] at hv
  cases hq : ((R.drop o).take n)[j]? with
  | none => rw [hq] at hv; cases hv
  | some y =>
    rw [hq] at hv
    have hj : j < n := by have := (List.getElem?_eq_some_iff.1 hq).1; rw [List.length_take] at this; omega
    rw [List.getElem?_take, if_pos hj, List.getElem?_drop] at hq
    obtain ⟨h1, h2⟩ := List.getElem?_eq_some_iff.1 hq
    have := h.at (o + j) h1
    rw [this, h2]
    exact hv
theorem eql_slot (a b : List By) (h1 : a.length = 24) (h2 : b.length = 24) (w : World) : (Op.equalIn 10000 82 (.agg (rc a)) (.agg (rc b))).run Tryd.prog w = .ok (decide (a = b)) w := by
  obtain ⟨i, hi, hz, hsz, hby⟩ := infoB
  have e := run_equalIn_array (P := Tryd.prog) w 9999 (t := 82) (e := 5) (rc a) (rc b) Tryd.underlying82 hi
  rw [cellsOne, eqItems_rc 9998 a b w _ (fun i hi => by rw [h1, h2]; have := List.mem_range.1 hi; exact ⟨this, this⟩), all_range a b 24 h1 h2] at e
  exact e
theorem sl24 (g F F2 : Nat) (b1 : F ≤ F2) (b2 : F2 ≤ 512) (b3 : F2 - F = 24) (W : World) : (Instr.sliceAt 36 (.pointer (some ⟨g, 0, none⟩)) (some (.int .i64 (F : Int))) (some (.int .i64 (F2 : Int))) none).run Tryd.prog W = .ok (.slice (some ⟨g, F, none⟩) (F2 - F) (512 - F)) W := by
  have hal : Tryd.prog.arrayLen 36 = 512 := by simp [Program.arrayLen, Tryd.underlying36]
  rw [run_sliceAt_array_lh W 36 ⟨g, 0, none⟩ (by simp [Program.arrayLen, Program.elem, Tryd.underlying36]) .i64 .i64 (F : Int) (F2 : Int) (by omega) (by omega) (by rw [hal]; omega)]
  have h5 : ¬ 512 = F := by omega
  go_simp
theorem z24_rc : rc z24 = #[.int .u8 0, .int .u8 0, .int .u8 0, .int .u8 0, .int .u8 0, .int .u8 0, .int .u8 0, .int .u8 0, .int .u8 0, .int .u8 0, .int .u8 0, .int .u8 0, .int .u8 0, .int .u8 0, .int .u8 0, .int .u8 0, .int .u8 0, .int .u8 0, .int .u8 0, .int .u8 0, .int .u8 0, .int .u8 0, .int .u8 0, .int .u8 0] := rfl
def KrA (w : World) (R : List By) (f r : Nat) (x : List (Nat × Nat) × Nat) (e : Ending) (V : World) : Prop := ∃ a m c B, e = .returned (.tuple #[.slice a m c, .bool B, .int .i64 (x.2 : Int)]) ∧ Hid (Nw w V ∧ (x.2 = 0 → NewG w (.slice a m c) (rgL x.1) V ∧ B = decide (R.getD (f + r * 24) 0 ≠ 0#8)) ∧ (x.2 ≠ 0 → a = none ∧ m = 0 ∧ c = 0 ∧ B = false))
set_option maxHeartbeats 16000000 in
set_option maxRecDepth 100000 in
theorem kread_any (w : World) (g : Nat) (R : List By) (hR : R.length = 512) (hg : RcO g R w) (f r : Nat) (hfr : f + r * 24 < 512) :
    Calls Tryd.prog 37 #[.agg #[.int .i64 (f : Int), .int .i64 (r : Int)], .pointer (some ⟨g, 0, none⟩)] w (KrA w R f r (rdO R r f [])) := by
  obtain ⟨P, hP⟩ : ∃ P : Ending → World → Prop, P = KrA w R f r (rdO R r f []) := ⟨_, rfl⟩
  rw [← hP]
  obtain ⟨tb, htb⟩ : ∃ tb, w.heap.size = tb := ⟨_, rfl⟩
  obtain ⟨W1, hW1⟩ : ∃ W1, w.alloc (.cells #[.int .i64 (f : Int), .int .i64 (r : Int)] 62) = W1 := ⟨_, rfl⟩
  have HN1 : Hid (Nw w W1) := by show Nw w W1; rw [← hW1]; exact (Fr.refl _ _).alloc _
  have ht1 : W1.heap[tb]? = some (.cells #[.int .i64 (f : Int), .int .i64 (r : Int)] 62) := by rw [← hW1, ← htb]; exact nHeap _ _
  obtain ⟨⟨v0, _⟩, ⟨v2, _⟩⟩ := two_cells ht1
  obtain ⟨E, hE⟩ : ∃ E, f + r * 24 = E := ⟨_, rfl⟩
  have hEi : (E : Int) < 512 := by omega
  have hEn : E < 512 := by omega
  have HEnd : Hid (∀ V, Calls Tryd.prog 44 #[.agg #[.int .i64 (f : Int), .int .i64 (r : Int)]] V fun e w' => e = .returned (.int .i64 (E : Int)) ∧ Hid (Nw V w')) := fun V => by
    have := kend_any V f r (by omega)
    rw [hE] at this
    exact this
  have HT1 := tHid ht1
  have HG := tHid hg
  have HOk : Hid (∀ V V' a7 n7 c7 og acc, Nw w V → Nw V V' → OgR RG og (.slice a7 n7 c7) (rgL acc) V → (∀ g, og = some g → W1.heap.size ≤ g) → rdO R r f [] = (acc, 0) → P (.returned (.tuple #[.slice a7 n7 c7, .bool (decide (R.getD E 0 ≠ 0#8)), .int .i64 0])) V') := fun V V' a7 n7 c7 og acc h1 h2 h3 h4 h5 => by
    rw [hP, h5]
    exact ⟨a7, n7, c7, _, rfl, h1.trans h2, fun _ => ⟨⟨og, h3.nw h2, fun g e => Nat.le_trans HN1.out.size (h4 g e)⟩, by rw [hE]⟩, fun h => absurd rfl h⟩
  have HBad : Hid (∀ V (e : Nat), Nw w V → e ≠ 0 → rdO R r f [] = ([], e) → P (.returned (.tuple #[.slice none 0 0, .bool false, .int .i64 (e : Int)])) V) := fun V e h1 h2 h3 => by
    rw [hP, h3]
    exact ⟨none, 0, 0, false, rfl, h1, fun h => absurd h h2, fun _ => ⟨rfl, rfl, rfl, rfl⟩⟩
  clear hP
  have hElt : E < R.length := by omega
  obtain ⟨y, hy⟩ : ∃ y : Nat, R[E].toNat = y := ⟨_, rfl⟩
  have hyB : ((y : Int) != 0) = decide (R.getD E 0 ≠ 0#8) := by
    rw [List.getD_eq_getElem?_getD, List.getElem?_eq_getElem hElt, ← hy]
    show _ = decide (R[E] ≠ 0#8)
    by_cases h0 : R[E] = 0#8
    · rw [h0]; rfl
    · rw [decide_eq_true h0]
      have : R[E].toNat ≠ 0 := fun e => h0 (BitVec.eq_of_toNat_eq e)
      simp only [bne_iff_ne, ne_eq]
      omega
  have HCell : Hid (∀ V, Nw W1 V → V.cell? ⟨tb, 0, none⟩ = some (.int .i64 (f : Int)) ∧ V.cell? ⟨tb, 1, none⟩ = some (.int .i64 (r : Int)) ∧ V.cell? ⟨g, E, none⟩ = some (.int .u8 (y : Int))) := fun V hV => by
    have t := HT1.out
    obtain ⟨⟨u0, _⟩, ⟨u2, _⟩⟩ := two_cells (Nw.heap hV t)
    have := RcO.at (Nw.heap (HN1.out.trans hV) hg) E hElt
    rw [hy] at this
    exact ⟨u0, u2, this⟩
  have HEq : Hid (∀ V, Nw W1 V → Calls Tryd.prog 44 #[.agg #[.int .i64 (f : Int), .int .i64 (r : Int)]] V.drew fun e w' => e = .returned (.int .i64 (E : Int)) ∧ (w'.cell? ⟨tb, 0, none⟩ = some (.int .i64 (f : Int)) ∧ w'.cell? ⟨tb, 1, none⟩ = some (.int .i64 (r : Int)) ∧ w'.cell? ⟨g, E, none⟩ = some (.int .u8 (y : Int))) ∧ Hid (Nw V w')) := fun V hV => by
    refine (HEnd.out V.drew).mono ?_
    rintro e w' ⟨rfl, K⟩
    have kd : Nw V V.drew := (Fr.refl _ _).drew
    exact ⟨rfl, HCell.out _ (hV.trans (kd.trans K.out)), kd.trans K.out⟩
  generalize decide (R.getD E 0 ≠ 0#8) = Y at *
  clear ht1 hg hy
  go_enter Tryd.func37, Tryd.ntmps37
  go_upto_region 1 with fail
  go_wp2_with fail
  go_loopg [7, 8] r (fun kx v x wr => ∃ (I F : Nat) (og : Option Nat) (acc : List (Nat × Nat)) (a7 : Option Addr) (n7 c7 : Nat), I ≤ r ∧ r - I ≤ kx ∧ x = .int .i64 (F : Int) ∧ v = .slice a7 n7 c7 ∧ Hid (F = f + I * 24 ∧ Nw w wr ∧ Nw W1 wr ∧ OgR RG og (.slice a7 n7 c7) (rgL acc) wr ∧ (∀ g, og = some g → W1.heap.size ≤ g) ∧ acc.length = I ∧ rdO R r f [] = rdO R (r - I) (f + I * 24) acc))
  case atStart =>
    exact ⟨0, f, none, [], none, 0, 0, by omega, by omega, rfl, rfl, by omega, HN1.out, Fr.refl _ _, ⟨rfl, rfl⟩, (fun g e => by cases e), rfl, by simp⟩
  case round =>
    obtain ⟨I, F, og, acc, a7, n7, c7, hI, hkx, rfl, rfl, HI⟩ := hrel
    have hF := HI.out.1
    have hN1 := HI.out.2.2.1
    have t1 : wr.heap[tb]? = some (.cells #[.int .i64 (f : Int), .int .i64 (r : Int)] 62) := Nw.heap hN1 HT1.out
    obtain ⟨⟨u0, _⟩, ⟨u2, _⟩⟩ := two_cells t1
    by_cases hlt : I < r
    · have hFE : (F : Int) < (E : Int) := by omega
      have hF24 : F + 24 ≤ 512 := by omega
      obtain ⟨F2, hF2⟩ : ∃ F2, F + 24 = F2 := ⟨_, rfl⟩
      have hF2i : (F : Int) + 24 = (F2 : Int) := by omega
      have b1 : F ≤ F2 := by omega
      have b2 : F2 ≤ 512 := by omega
      have b3 : F2 - F = 24 := by omega
      have hSl := sl24 g F F2 b1 b2 b3
      rw [b3] at hSl
      have hAr : ∀ (W : World) (c : Nat), (Instr.arrayAt 82 (.slice (some ⟨g, F, none⟩) 24 c)).run Tryd.prog W = .ok (.pointer (some ⟨g, F, none⟩)) W := fun W c => by
        simp [Instr.arrayAt, run_underlying Tryd.underlying82]
      obtain ⟨s, hs⟩ : ∃ s, (R.drop F).take 24 = s := ⟨_, rfl⟩
      have hsl : s.length = 24 := by rw [← hs, List.length_take, List.length_drop]; omega
      have hGr : RcO g R wr := Nw.heap HI.out.2.1 HG.out
      have hmid := hGr.mid hR F 24 hF24
      rw [hs] at hmid
      have HM : Hid (∀ W, Nw wr W → W.rangeAt g F (s.map bv)) := fun W hW j v hv => Nw.cell hW (hmid j v hv)
      have HIn : Hid ((Tryd.prog.info? 82).map (·.size) = some (s.map bv).length) := by
        have : (Tryd.prog.info? 82).map (·.size) = some (s.map bv).length := by rw [List.length_map, hsl]; kernel_rfl
        exact this
      have hC : ∃ C, C = rc s ∧ Hid (C.size = 24) ∧ Hid (C.all (·.oneCell') = true) ∧ Hid ((Tryd.prog.info? 82).map (·.size) = some C.size) := ⟨rc s, rfl, (by rw [rc_size, hsl] : (rc s).size = 24), rc_one s, (by rw [rc_size, hsl]; kernel_rfl : (Tryd.prog.info? 82).map (·.size) = some (rc s).size)⟩
      obtain ⟨C, hC, HC1, HC2, HC3⟩ := hC
      have HCM : Hid ((s.map bv).toArray = C) := hC.symm
      have heq0 := fun W : World => eql_slot s z24 hsl rfl W
      rw [z24_rc, ← hC] at heq0
      have HNB : Hid (∀ V, Calls Tryd.prog 47 #[.agg C] V fun e w' => ∃ Rb Sb, e = .returned (.func (.func 56) #[] #[.pointer (some ⟨Rb, 0, none⟩)]) ∧ Hid (Nw V w' ∧ V.heap.size ≤ Rb ∧ Rb < w'.heap.size ∧ Rb ≠ Sb ∧ SlH Sb s w' ∧ RsB Rb Sb 0 w')) := fun V => by rw [hC]; exact snumbers_any V s hsl
      have hrd : rdO R (r - I) (f + I * 24) acc = if s = z24 then (acc, 0) else if (one2 s).2 ≠ 0 then ([], (one2 s).2) else rdO R (r - (I + 1)) (f + (I + 1) * 24) (acc ++ [(one2 s).1]) := by
        obtain ⟨k, hk⟩ : ∃ k, r - I = k + 1 := ⟨r - I - 1, by omega⟩
        have e1 : r - (I + 1) = k := by omega
        rw [hk, e1, rdO, ← hF, hs, show F + 24 = f + (I + 1) * 24 by omega]
      have HRD := tHid hrd
      clear hF t1 hmid hGr hrd hs hC
      go_upto_region 5 with (first
        | (go_at_call 44; with_reducible refine (HEnd.out _).mono ?_; rintro e w2 ⟨rfl, H2⟩))
      obtain ⟨sb, hsb⟩ : ∃ sb, w2.heap.size = sb := ⟨_, rfl⟩
      have hrow0 := nHeap w2 (.cells #[.int .u8 0, .int .u8 0, .int .u8 0, .int .u8 0, .int .u8 0, .int .u8 0, .int .u8 0, .int .u8 0, .int .u8 0, .int .u8 0, .int .u8 0, .int .u8 0, .int .u8 0, .int .u8 0, .int .u8 0, .int .u8 0, .int .u8 0, .int .u8 0, .int .u8 0, .int .u8 0, .int .u8 0, .int .u8 0, .int .u8 0, .int .u8 0] 82)
      rw [hsb] at hrow0
      obtain ⟨W3, hW3⟩ : ∃ W3, (w2.alloc (.cells #[.int .u8 0, .int .u8 0, .int .u8 0, .int .u8 0, .int .u8 0, .int .u8 0, .int .u8 0, .int .u8 0, .int .u8 0, .int .u8 0, .int .u8 0, .int .u8 0, .int .u8 0, .int .u8 0, .int .u8 0, .int .u8 0, .int .u8 0, .int .u8 0, .int .u8 0, .int .u8 0, .int .u8 0, .int .u8 0, .int .u8 0, .int .u8 0] 82)).setRow sb C = W3 := ⟨_, rfl⟩
      have HR0 := tHid hrow0
      have HW3 := tHid hW3
      have HN3 : Hid (Nw wr W3) := by
        have : Nw w2 W3 := by rw [← hW3]; exact ((Fr.refl _ _).alloc _).setRow _ _ (.inr (by omega))
        exact H2.out.trans this
      have HS3 : Hid (W3.heap[sb]? = some (.cells C 82)) := by
        have : W3.heap[sb]? = some (.cells C 82) := by rw [← hW3]; exact setRow_heap _ _ _ _ 82 _ hrow0
        exact this
      have HZ : Hid ((#[.int .u8 0, .int .u8 0, .int .u8 0, .int .u8 0, .int .u8 0, .int .u8 0, .int .u8 0, .int .u8 0, .int .u8 0, .int .u8 0, .int .u8 0, .int .u8 0, .int .u8 0, .int .u8 0, .int .u8 0, .int .u8 0, .int .u8 0, .int .u8 0, .int .u8 0, .int .u8 0, .int .u8 0, .int .u8 0, .int .u8 0, .int .u8 0] : Array Value).size = C.size) := by
        show 24 = C.size
        rw [HC1.out]
      have heq := heq0 W3
      clear hrow0 hW3 heq0
      go_upto_region 6 with (first
        | (refine wpList_load_mid rfl 82 _ rfl g F (by first | rfl | simp [Act.eval]) (s.map bv) _ (HM.out _ H2.out) Tryd.underlying82 rfl HIn.out ?_; rw [HCM.out])
        | (refine wpList_store_row rfl 82 _ _ rfl sb C (by first | rfl | simp [Act.eval]) (by first | rfl | simp [Act.eval]) 82 _ HR0.out HC3.out HZ.out HC2.out ?_; rw [HW3.out]))
      clear HR0 HW3 HZ HM HIn HCM hSl hAr
      have hN3 : Nw W1 W3 := hN1.trans HN3.out
      have HQ3 := tHid (HEq.out W3 hN3)
      obtain ⟨q0, q1, q2⟩ := HCell.out W3 hN3
      by_cases hz : s = z24
      · rw [decide_eq_true hz] at heq
        have HF3 : Hid (∀ V, Nw W3 V → P (.returned (.tuple #[.slice a7 n7 c7, .bool Y, .int .i64 0])) V) := fun V hV => HOk.out W3 V a7 n7 c7 og acc (HI.out.2.1.trans HN3.out) hV (HI.out.2.2.2.1.nw HN3.out) HI.out.2.2.2.2.1 (by rw [HI.out.2.2.2.2.2.2, HRD.out, if_pos hz])
        clear HI HOk HBad HEq HCell HRD HNB hN1 hN3
        go_upto_region 11 with (first
          | (refine wpList_load_row rfl 82 _ rfl sb (by first | rfl | simp [Act.eval]) 82 _ (0, 0) _ HS3.out Tryd.underlying82 rfl HC3.out ?_))
        go_region_held3 (fun w' => w'.cell? ⟨tb, 0, none⟩ = some (.int .i64 (f : Int)) ∧ w'.cell? ⟨tb, 1, none⟩ = some (.int .i64 (r : Int)) ∧ w'.cell? ⟨g, E, none⟩ = some (.int .u8 (y : Int)))
          (first | assumption | exact ⟨q0, q1, q2⟩)
          (first | (go_at_call 44; with_reducible refine HQ3.out.mono ?_; rintro e w4 ⟨rfl, k4, K4⟩))
        go_wp2_with fail
        first | exact HF3.out _ K4.out | (go_ret; exact HF3.out _ K4.out)
      · rw [decide_eq_false hz] at heq
        have hrd := HI.out.2.2.2.2.2.2
        rw [HRD.out, if_neg hz] at hrd
        have HTO : Hid (∀ V Rb Sb, Rb ≠ Sb → SlH Sb s V → RsB Rb Sb 0 V → Calls Tryd.prog 43 #[.func (.func 56) #[] #[.pointer (some ⟨Rb, 0, none⟩)]] V (ToB V Rb (one2 s))) := fun V Rb Sb h1 h2 h3 => told_sl V Rb Sb s hsl h1 h2 h3
        unfold ToB at HTO
        clear HRD HQ3 q0 q1 q2 HEq HCell hz
        generalize one2 s = r1 at *
        obtain ⟨⟨A, B⟩, e1⟩ := r1
        simp only at HTO hrd
        go_upto_region 7 with (first
          | (refine wpList_load_row rfl 82 _ rfl sb (by first | rfl | simp [Act.eval]) 82 _ (0, 0) _ HS3.out Tryd.underlying82 rfl HC3.out ?_))
        go_upto_region 8 with (first
          | (refine wpList_load_row rfl 82 _ rfl sb (by first | rfl | simp [Act.eval]) 82 _ (0, 0) _ HS3.out Tryd.underlying82 rfl HC3.out ?_)
          | (go_at_call 47; with_reducible refine (HNB.out _).mono ?_; rintro e w4 ⟨Rb, Sb, rfl, H4⟩)
          | (go_at_call 43; with_reducible refine (HTO.out _ Rb Sb H4.out.2.2.2.1 H4.out.2.2.2.2.1 H4.out.2.2.2.2.2).mono ?_; rintro e w5 ⟨rfl, H5⟩))
        have HN5 : Hid (Nw W3 w5) := H4.out.1.then H5.out (fun i hi => .inr (by have := H4.out.2.1; omega))
        by_cases he1 : e1 = 0
        · subst he1
          rw [if_neg (by simp)] at hrd
          have hN6 : Nw wr w5 := HN3.out.trans HN5.out
          obtain ⟨bb, hbb⟩ : ∃ bb, w5.heap.size = bb := ⟨_, rfl⟩
          obtain ⟨W6, hW6⟩ : ∃ W6, w5.alloc (.cells #[.int .i64 (A : Int), .int .i64 (B : Int)] 51) = W6 := ⟨_, rfl⟩
          have hN6b : Nw w5 W6 := by rw [← hW6]; exact (Fr.refl _ _).alloc _
          have hrow6 : W6.heap[bb]? = some (.cells #[.int .i64 (A : Int), .int .i64 (B : Int)] 51) := by rw [← hW6, ← hbb]; exact nHeap _ _
          obtain ⟨⟨z0, _⟩, ⟨z1, _⟩⟩ := two_cells hrow6
          obtain ⟨og', v', W7, a1, a2, a3, a4⟩ := pushG W6 og _ (rgL acc) (HI.out.2.2.2.1.nw (hN6.trans hN6b)) (by rw [rgL_len, HI.out.2.2.2.2.2.1]; omega) ((A : Int), (B : Int))
          have hfr : ∀ g, og = some g → W1.heap.size ≤ g := HI.out.2.2.2.2.1
          have hN17 : Nw W1 W7 := (hN1.trans (hN6.trans hN6b)).then a3 (fun i hi => .inr (hfr i hi))
          have hfr' : ∀ g, og' = some g → W1.heap.size ≤ g := fun g e => by
            rcases a4 with h | ⟨g', e', hg'⟩
            · exact hfr g (by rw [← h]; exact e)
            · rw [e'] at e
              injection e with e
              have := (hN1.trans (hN6.trans hN6b)).size; omega
          have hrg : rgL acc ++ [((A : Int), (B : Int))] = rgL (acc ++ [(A, B)]) := (rgL_snoc acc (A, B)).symm
          rw [hrg] at a2
          obtain ⟨a8, c8, rfl, m1, m2⟩ := a2.form
          have HNX : Hid (F2 = f + (I + 1) * 24 ∧ Nw w W7 ∧ Nw W1 W7 ∧ OgR RG og' (.slice a8 (rgL (acc ++ [(A, B)])).length c8) (rgL (acc ++ [(A, B)])) W7 ∧ (∀ g, og' = some g → W1.heap.size ≤ g) ∧ (acc ++ [(A, B)]).length = I + 1 ∧ rdO R r f [] = rdO R (r - (I + 1)) (f + (I + 1) * 24) (acc ++ [(A, B)])) := ⟨by have := HI.out.1; omega, HN1.out.trans hN17, hN17, a2, hfr', by simp [HI.out.2.2.2.2.2.1], hrd⟩
          clear HI HOk HBad hN1 hN3 hrd HTO HNB H4 H5 HN5 hN6 hN6b hrow6 a2 a3 a4 hN17 hfr hfr' hrg m1 m2
          generalize (rgL (acc ++ [(A, B)])).length = n8 at *
          unfold rgC at a1
          go_wp2_with (first
            | (at_builtin; refine Lib.wpList_append_run _ rfl _ _ 22 22 rfl (.slice a7 n7 c7) (.slice (some ⟨W6.heap.size, 0, none⟩) 1 1) (by first | rfl | simp [Act.eval]) (by first | rfl | simp [Act.eval]) _ _ (a1.out _) ?_))
          go_roundg (r - (I + 1))
          case measure => omega
          case rel => exact ⟨I + 1, F2, og', acc ++ [(A, B)], a8, n8, c8, by omega, by omega, rfl, rfl, HNX⟩
        · rw [if_pos he1] at hrd
          have he1i : ¬ ((e1 : Int) = 0) := by omega
          have HF5 : Hid (∀ V, Nw w5 V → P (.returned (.tuple #[.slice none 0 0, .bool false, .int .i64 (e1 : Int)])) V) := fun V hV => HBad.out V e1 ((HI.out.2.1.trans HN3.out).trans (HN5.out.trans hV)) he1 hrd
          clear HI HOk HBad hN1 hN3 hrd HTO HNB H4 H5 HN5
          have hal : Nw w5 (w5.alloc (.cells #[.int .i64 (A : Int), .int .i64 (B : Int)] 51)) := (Fr.refl _ _).alloc _
          have HAL := tHid hal
          clear hal
          go_wp2_with fail
          first | exact HF5.out _ HAL.out | (go_ret; exact HF5.out _ HAL.out)
    · have hFE : ¬ (F : Int) < (E : Int) := by omega
      have hrd : rdO R r f [] = (acc, 0) := by
        rw [HI.out.2.2.2.2.2.2, show r - I = 0 by omega, rdO]
      have HF3 : Hid (∀ V, Nw wr V → P (.returned (.tuple #[.slice a7 n7 c7, .bool Y, .int .i64 0])) V) := fun V hV => HOk.out wr V a7 n7 c7 og acc HI.out.2.1 hV HI.out.2.2.2.1 HI.out.2.2.2.2.1 hrd
      have HC4 : Hid (∀ V, Nw wr V → V.cell? ⟨tb, 0, none⟩ = some (.int .i64 (f : Int)) ∧ V.cell? ⟨tb, 1, none⟩ = some (.int .i64 (r : Int)) ∧ V.cell? ⟨g, E, none⟩ = some (.int .u8 (y : Int))) := fun V hV => HCell.out V (hN1.trans hV)
      have HQ4 : Hid (∀ V, Nw wr V → Calls Tryd.prog 44 #[.agg #[.int .i64 (f : Int), .int .i64 (r : Int)]] V.drew fun e w' => e = .returned (.int .i64 (E : Int)) ∧ (w'.cell? ⟨tb, 0, none⟩ = some (.int .i64 (f : Int)) ∧ w'.cell? ⟨tb, 1, none⟩ = some (.int .i64 (r : Int)) ∧ w'.cell? ⟨g, E, none⟩ = some (.int .u8 (y : Int))) ∧ Hid (Nw V w')) := fun V hV => HEq.out V (hN1.trans hV)
      clear HI HOk HBad HEq HCell hN1 hrd hF t1
      go_upto_region 11 with (first
        | (go_at_call 44; with_reducible refine (HEnd.out _).mono ?_; rintro e w2 ⟨rfl, H2⟩))
      obtain ⟨q0, q1, q2⟩ := HC4.out w2 H2.out
      have HQ5 := tHid (HQ4.out w2 H2.out)
      go_region_held3 (fun w' => w'.cell? ⟨tb, 0, none⟩ = some (.int .i64 (f : Int)) ∧ w'.cell? ⟨tb, 1, none⟩ = some (.int .i64 (r : Int)) ∧ w'.cell? ⟨g, E, none⟩ = some (.int .u8 (y : Int)))
        (first | assumption | exact ⟨q0, q1, q2⟩)
        (first | (go_at_call 44; with_reducible refine HQ5.out.mono ?_; rintro e w4 ⟨rfl, k4, K4⟩))
      have HN4 := tHid (H2.out.trans K4.out)
      go_wp2_with fail
      first | exact HF3.out _ HN4.out | (go_ret; exact HF3.out _ HN4.out)
end Go.Proofs.YtffhpoilifgcdaaDoor

namespace Go.Proofs.YtffhpoilifgcdaaDoor
open Go.RowKit
set_option linter.unusedVariables false
/-! ### ReadOld, ReadMore -/
theorem newG_from {w w' : World} {v : Value} {l : List Rg} {V : World} (h : NewG w' v l V) (hs : w.heap.size ≤ w'.heap.size) : NewG w v l V := by
  obtain ⟨og, h1, h2⟩ := h
  exact ⟨og, h1, fun g e => Nat.le_trans hs (h2 g e)⟩
theorem results_t4 {fn : Func} {t u v x : Tmp} (h : fn.results = #[.tmp t, .tmp u, .tmp v, .tmp x]) (tmps : Array Value) (P : Program) (w : World) : (results fn tmps).run P w = .ok (.tuple #[tmps.getD t undef, tmps.getD u undef, tmps.getD v undef, tmps.getD x undef]) w := by
  simp [results, h]
def roE (R : List By) : Nat := if (rdO R 4 386 []).2 ≠ 0 then (rdO R 4 386 []).2 else (szN ((R.drop 483).take 12)).2
def RoA (w : World) (R : List By) (e : Ending) (V : World) : Prop := ∃ a m c B N, e = .returned (.tuple #[.slice a m c, .int .i64 (N : Int), .bool B, .int .i64 (roE R : Int)]) ∧ Hid (Nw w V ∧ (roE R = 0 → NewG w (.slice a m c) (rgL (rdO R 4 386 []).1) V ∧ B = decide (R.getD 482 0 ≠ 0#8) ∧ N = ((szN ((R.drop 483).take 12)).1 : Int)) ∧ (roE R ≠ 0 → a = none ∧ m = 0 ∧ c = 0 ∧ B = false ∧ N = 0))
theorem RcO.sl {g : Nat} {R : List By} {w : World} (h : RcO g R w) (hl : R.length = 512) (o : Nat) (ho : o < 512) : Sl (fun _ => False) (.slice (some ⟨g, o, none⟩) (512 - o) (512 - o)) (R.drop o) w := by
  refine .inr ⟨g, fun h => h, o, 512 - o, ?_, ?_, by omega, ?_⟩
  · rw [List.length_drop, hl]
  · rw [List.length_drop, hl]; exact Nat.le_refl _
  · intro j hj
    rw [List.length_drop] at hj
    have := h.at (o + j) (by omega)
    rw [this, List.getElem_drop]
theorem sl483 (g : Nat) (W : World) : (Instr.sliceAt 36 (.pointer (some ⟨g, 0, none⟩)) (some (.int .i64 483)) none none).run Tryd.prog W = .ok (.slice (some ⟨g, 483, none⟩) 29 29) W := by
  have hal : Tryd.prog.arrayLen 36 = 512 := by simp [Program.arrayLen, Tryd.underlying36]
  rw [run_sliceAt_array_l W 36 ⟨g, 0, none⟩ (by simp [Program.arrayLen, Program.elem, Tryd.underlying36]) .i64 483 (by omega) (by rw [hal]; omega)]
  go_simp
set_option maxHeartbeats 8000000 in
set_option maxRecDepth 100000 in
theorem readOld_any (w : World) (R : List By) (hR : R.length = 512) : Calls Tryd.prog 19 #[.agg (rc R)] w (RoA w R) := by
  obtain ⟨P, hP⟩ : ∃ P : Ending → World → Prop, P = RoA w R := ⟨_, rfl⟩
  rw [← hP]
  obtain ⟨g, hg⟩ : ∃ g, w.heap.size = g := ⟨_, rfl⟩
  obtain ⟨W1, hW1⟩ : ∃ W1, w.alloc (.cells (rc R) 36) = W1 := ⟨_, rfl⟩
  have hN1 : Nw w W1 := by rw [← hW1]; exact (Fr.refl _ _).alloc _
  have hr1 : RcO g R W1 := by rw [← hW1, ← hg]; exact nHeap _ _
  have HRd : Hid (∀ V, Nw W1 V → Calls Tryd.prog 37 #[.agg #[.int .i64 386, .int .i64 4], .pointer (some ⟨g, 0, none⟩)] V (KrA V R 386 4 (rdO R 4 386 []))) := fun V hV => kread_any V g R hR (Nw.heap hV hr1) 386 4 (by omega)
  unfold KrA at HRd
  have HNu : Hid (∀ V, Nw W1 V → Calls Tryd.prog 38 #[.slice (some ⟨g, 483, none⟩) 29 29] V fun e w' => e = .returned (.tuple #[.int .i64 ((szN ((R.drop 483).take 12)).1 : Int), .int .i64 ((szN ((R.drop 483).take 12)).2 : Int)]) ∧ Hid (Nw V w')) := fun V hV => xnumber_any V g 483 29 29 _ (RcO.sl (Nw.heap hV hr1) hR 483 (by omega)) (by omega)
  have HBad : Hid (∀ V (e : Nat), Nw w V → roE R = e → e ≠ 0 → P (.returned (.tuple #[.slice none 0 0, .int .i64 0, .bool false, .int .i64 (e : Int)])) V) := fun V e h1 h2 h3 => by
    rw [hP]
    exact ⟨none, 0, 0, false, 0, by rw [h2], h1, fun h => absurd (h2 ▸ h) h3, fun _ => ⟨rfl, rfl, rfl, rfl, rfl⟩⟩
  have HOk : Hid (∀ V a m c B (N : Nat), Nw w V → roE R = 0 → NewG w (.slice a m c) (rgL (rdO R 4 386 []).1) V → B = decide (R.getD 482 0 ≠ 0#8) → N = (szN ((R.drop 483).take 12)).1 → P (.returned (.tuple #[.slice a m c, .int .i64 (N : Int), .bool B, .int .i64 0])) V) := fun V a m c B N h1 h2 h3 h4 h5 => by
    rw [hP]
    exact ⟨a, m, c, B, _, by rw [h2]; rfl, h1, fun _ => ⟨h3, h4, by rw [h5]⟩, fun h => absurd h2 h⟩
  have hroE : roE R = if (rdO R 4 386 []).2 ≠ 0 then (rdO R 4 386 []).2 else (szN ((R.drop 483).take 12)).2 := rfl
  have HFi := tHid first_any
  have hsl := sl483 g
  have HN1 := tHid hN1
  clear hP hr1 hN1
  generalize (rdO R 4 386 []).2 = E1 at *
  generalize szN ((R.drop 483).take 12) = S at *
  obtain ⟨N2, E2⟩ := S
  simp only at HNu HOk hroE
  generalize rc R = C at *
  by_cases h1 : E1 = 0
  · subst h1
    rw [if_neg (by simp)] at hroE
    by_cases h2 : E2 = 0
    · subst h2
      go_enter Tryd.func19, Tryd.ntmps19
      go_wp2_with (first
        | (go_at_call 31; with_reducible refine (HFi.out _).mono ?_; rintro e w2 ⟨rfl, H2⟩)
        | (go_at_call 37; with_reducible refine (HRd.out _ H2.out).mono ?_; rintro e w3 ⟨a, m, c, B, rfl, H3⟩; have HN3 := tHid (H2.out.trans H3.out.1))
        | (go_at_call 38; with_reducible refine (HNu.out _ HN3.out).mono ?_; rintro e w4 ⟨rfl, H4⟩))
      have HE := tHid (HOk.out w4 a m c B N2 (HN1.out.trans (HN3.out.trans H4.out)) hroE (newG_from ((H3.out.2.1 (by first | trivial | rfl)).1.nw H4.out) (HN1.out.trans H2.out).size) (H3.out.2.1 (by first | trivial | rfl)).2 rfl)
      first | exact HE.out | (go_ret; exact HE.out) | (refine bodyPost_ret (results_t4 rfl _ _ _) rfl ?_; exact HE.out)
    · have h2i : ¬ ((E2 : Int) = 0) := by omega
      go_enter Tryd.func19, Tryd.ntmps19
      go_wp2_with (first
        | (go_at_call 31; with_reducible refine (HFi.out _).mono ?_; rintro e w2 ⟨rfl, H2⟩)
        | (go_at_call 37; with_reducible refine (HRd.out _ H2.out).mono ?_; rintro e w3 ⟨a, m, c, B, rfl, H3⟩; have HN3 := tHid (H2.out.trans H3.out.1))
        | (go_at_call 38; with_reducible refine (HNu.out _ HN3.out).mono ?_; rintro e w4 ⟨rfl, H4⟩))
      have HE := tHid (HBad.out w4 E2 (HN1.out.trans (HN3.out.trans H4.out)) hroE h2)
      first | exact HE.out | (go_ret; exact HE.out) | (refine bodyPost_ret (results_t4 rfl _ _ _) rfl ?_; exact HE.out)
  · rw [if_pos h1] at hroE
    have h1i : ¬ ((E1 : Int) = 0) := by omega
    go_enter Tryd.func19, Tryd.ntmps19
    go_wp2_with (first
      | (go_at_call 31; with_reducible refine (HFi.out _).mono ?_; rintro e w2 ⟨rfl, H2⟩)
      | (go_at_call 37; with_reducible refine (HRd.out _ H2.out).mono ?_; rintro e w3 ⟨a, m, c, B, rfl, H3⟩; have HN3 := tHid (H2.out.trans H3.out.1)))
    have HE := tHid (HBad.out w3 E1 (HN1.out.trans HN3.out) hroE h1)
    first | exact HE.out | (go_ret; exact HE.out) | (refine bodyPost_ret (results_t4 rfl _ _ _) rfl ?_; exact HE.out)
def RmA (w : World) (R : List By) (e : Ending) (V : World) : Prop := ∃ a m c B, e = .returned (.tuple #[.slice a m c, .bool B, .int .i64 ((rdO R 21 0 []).2 : Int)]) ∧ Hid (Nw w V ∧ ((rdO R 21 0 []).2 = 0 → NewG w (.slice a m c) (rgL (rdO R 21 0 []).1) V ∧ B = decide (R.getD 504 0 ≠ 0#8)) ∧ ((rdO R 21 0 []).2 ≠ 0 → a = none ∧ m = 0 ∧ c = 0 ∧ B = false))
set_option maxHeartbeats 8000000 in
set_option maxRecDepth 100000 in
theorem readMore_any (w : World) (R : List By) (hR : R.length = 512) : Calls Tryd.prog 21 #[.agg (rc R)] w (RmA w R) := by
  obtain ⟨P, hP⟩ : ∃ P : Ending → World → Prop, P = RmA w R := ⟨_, rfl⟩
  rw [← hP]
  obtain ⟨g, hg⟩ : ∃ g, w.heap.size = g := ⟨_, rfl⟩
  obtain ⟨W1, hW1⟩ : ∃ W1, w.alloc (.cells (rc R) 36) = W1 := ⟨_, rfl⟩
  have hN1 : Nw w W1 := by rw [← hW1]; exact (Fr.refl _ _).alloc _
  have hr1 : RcO g R W1 := by rw [← hW1, ← hg]; exact nHeap _ _
  have HRd : Hid (∀ V, Nw W1 V → Calls Tryd.prog 37 #[.agg #[.int .i64 0, .int .i64 21], .pointer (some ⟨g, 0, none⟩)] V (KrA V R 0 21 (rdO R 21 0 []))) := fun V hV => kread_any V g R hR (Nw.heap hV hr1) 0 21 (by omega)
  unfold KrA at HRd
  have HOk : Hid (∀ V U a m c B, Nw w V → Nw V U → ((rdO R 21 0 []).2 = 0 → NewG V (.slice a m c) (rgL (rdO R 21 0 []).1) U ∧ B = decide (R.getD (0 + 21 * 24) 0 ≠ 0#8)) → ((rdO R 21 0 []).2 ≠ 0 → a = none ∧ m = 0 ∧ c = 0 ∧ B = false) → P (.returned (.tuple #[.slice a m c, .bool B, .int .i64 ((rdO R 21 0 []).2 : Int)])) U) := fun V U a m c B h1 h2 h3 h4 => by
    rw [hP]
    exact ⟨a, m, c, B, rfl, h1.trans h2, fun h => ⟨newG_from (h3 h).1 h1.size, (h3 h).2⟩, h4⟩
  have HFi := tHid further_any
  have HN1 := tHid hN1
  clear hP hr1 hN1
  generalize (rdO R 21 0 []).2 = E1 at *
  generalize rc R = C at *
  go_enter Tryd.func21, Tryd.ntmps21
  go_wp2_with (first
    | (go_at_call 34; with_reducible refine (HFi.out _).mono ?_; rintro e w2 ⟨rfl, H2⟩)
    | (go_at_call 37; with_reducible refine (HRd.out _ H2.out).mono ?_; rintro e w3 ⟨a, m, c, B, rfl, H3⟩))
  have HE := tHid (HOk.out w2 w3 a m c B (HN1.out.trans H2.out) H3.out.1 H3.out.2.1 H3.out.2.2)
  first | exact HE.out | (go_ret; exact HE.out) | (refine bodyPost_ret (results_tmp3 rfl _ _ _) rfl ?_; exact HE.out)
end Go.Proofs.YtffhpoilifgcdaaDoor
