import Derived.Test.YtlfcgldbgejfbaaDiT
import Derived.Test.YtlfcgldbgejfbaaDiW
import Derived.Test.YtlfcgldbgejfbaaDiD
namespace Go.Proofs.Ytlfcgldbgejfbaa
open Go.RowKit
set_option linter.unusedVariables false
theorem tells_at (w : World) (sb : Nat) (s o : BitVec 64) (D : Nat → Nat) (T : Nat → Value) (L : Nat → List By) (V : World) (h : DInv w sb s o D T L V) (hl : ∀ i, i < 4 → (L i).length ≤ 1048576) (i : Nat) (hi : i < 4) (z : Int) (hz : z = i) :
    Calls Try.prog 16 #[.pointer (some ⟨sb, 0, none⟩), .int .i64 z] V fun e w' => e = .returned (.bool true) ∧ Nw V w' := by
  subst hz
  have := hl i hi
  obtain rfl | rfl | rfl | rfl : i = 0 ∨ i = 1 ∨ i = 2 ∨ i = 3 := by omega
  · exact tells0 w sb s o D T L V h (by omega)
  · exact tells1 w sb s o D T L V h (by omega)
  · exact tells2 w sb s o D T L V h (by omega)
  · exact tells3 w sb s o D T L V h (by omega)
theorem writes_at (w : World) (sb : Nat) (s o : BitVec 64) (D : Nat → Nat) (T : Nat → Value) (L : Nat → List By) (V : World) (h : DInv w sb s o D T L V) (xa : Option Addr) (xc : Nat) (m : List By) (hx : Old w (.slice xa m.length xc) m) (i : Nat) (hi : i < 4) (hl : (L i).length + m.length ≤ 1048576) (z : Int) (hz : z = i) :
    Calls Try.prog 15 #[.pointer (some ⟨sb, 0, none⟩), .int .i64 z, .slice xa m.length xc] V fun e w' => e = .returned (.bool true) ∧ ∃ t, DInv w sb s o D (upd T i t) (upd L i (L i ++ m)) w' := by
  subst hz
  obtain rfl | rfl | rfl | rfl : i = 0 ∨ i = 1 ∨ i = 2 ∨ i = 3 := by omega
  · exact writes0 w sb s o D T L V h xa xc m hx hl
  · exact writes1 w sb s o D T L V h xa xc m hx hl
  · exact writes2 w sb s o D T L V h xa xc m hx hl
  · exact writes3 w sb s o D T L V h xa xc m hx hl
theorem clones_at (w : World) (sb : Nat) (s o : BitVec 64) (D : Nat → Nat) (T : Nat → Value) (L : Nat → List By) (V : World) (h : DInv w sb s o D T L V) (i : Nat) (hi : i < 4) (z : Int) (hz : z = i) :
    Calls Try.prog 18 #[.pointer (some ⟨sb, 0, none⟩), .int .i64 z] V fun e w' => e = .returned (.bool true) ∧ ∃ d, DInv w sb s o (upd D i d) T L w' := by
  subst hz
  obtain rfl | rfl | rfl | rfl : i = 0 ∨ i = 1 ∨ i = 2 ∨ i = 3 := by omega
  · exact clones0 w sb s o D T L V h
  · exact clones1 w sb s o D T L V h
  · exact clones2 w sb s o D T L V h
  · exact clones3 w sb s o D T L V h
theorem reset_at (w : World) (sb : Nat) (s o : BitVec 64) (D : Nat → Nat) (T : Nat → Value) (L : Nat → List By) (V : World) (h : DInv w sb s o D T L V) (i : Nat) (hi : i < 4) (z : Int) (hz : z = i) :
    Calls Try.prog 17 #[.pointer (some ⟨sb, 0, none⟩), .int .i64 z] V fun e w' => e = .returned (.tuple #[.pointer (some ⟨D 0, 0, none⟩), .pointer (some ⟨D 1, 0, none⟩), .pointer (some ⟨D 2, 0, none⟩), .pointer (some ⟨D 3, 0, none⟩)]) ∧ Fr (fun k => k = D i) V w' ∧ Tk s o i (D i) [] w' := by
  subst hz
  obtain rfl | rfl | rfl | rfl : i = 0 ∨ i = 1 ∨ i = 2 ∨ i = 3 := by omega
  · exact reset0 w sb s o D T L V h
  · exact reset1 w sb s o D T L V h
  · exact reset2 w sb s o D T L V h
  · exact reset3 w sb s o D T L V h
/-- What holds ahead of step k. -/
def DLoop (w : World) (sb : Nat) (s o : BitVec 64) (P : Nat → List By) (k : Nat) (V : World) : Prop := ∃ D T L, DInv w sb s o D T L V ∧ ∀ i, i < 4 → (L i).length ≤ (cat P k).length
theorem DLoop.more {w : World} {sb : Nat} {s o : BitVec 64} {P : Nat → List By} {k : Nat} {V V' : World} (h : DLoop w sb s o P k V) (hN : Nw V V') : DLoop w sb s o P (k + 1) V' := by
  obtain ⟨D, T, L, h1, h2⟩ := h
  exact ⟨D, T, L, h1.nws hN, fun i hi => Nat.le_trans (h2 i hi) (cat_le P k (k + 1) (by omega))⟩
theorem setCell_same (W : World) (sb j : Nat) (C : Array Value) (t : TypeId) (v : Value) (h : W.heap[sb]? = some (.cells C t)) (hj : C[j]? = some v) : W.setCell ⟨sb, j, none⟩ v = W := by
  have e1 : C.setIfInBounds j v = C := by
    apply Array.ext_getElem?
    intro m
    rw [Array.getElem?_setIfInBounds]
    split
    · subst_vars
      split
      · exact hj.symm
      · rename_i h2
        rw [Array.getElem?_eq_none (by omega)]
    · rfl
  have e : W.heap.modify sb (fun | .cells c t f => .cells (c.setIfInBounds j v) t f | o => o) = W.heap := by
    apply Array.ext_getElem?
    intro m
    rw [Array.getElem?_modify]
    split
    · subst_vars
      rw [h]
      simp [e1]
    · rfl
  exact congrArg (fun q => ({ W with heap := q } : World)) e
theorem grown_le (P : Nat → List By) (k : Nat) (L : Nat → List By) (hL : ∀ i, i < 4 → (L i).length ≤ (cat P k).length) (i : Nat) : ∀ j, j < 4 → (upd L i (L i ++ P k) j).length ≤ (cat P (k + 1)).length := by
  intro j hj
  have := hL j hj
  simp only [cat, List.length_append]
  by_cases e : j = i
  · subst e
    simp only [upd, if_pos, List.length_append]; omega
  · simp only [upd, if_neg e]; omega
/-- What the walk wants of a digest that began again. -/
structure RFacts (w : World) (sb : Nat) (s o : BitVec 64) (P : Nat → List By) (D : Nat → Nat) (i k : Nat) (W : World) : Prop where
  c0 : W.cell? ⟨sb, 0, none⟩ = some (.pointer (some ⟨D 0, 0, none⟩))
  c1 : W.cell? ⟨sb, 1, none⟩ = some (.pointer (some ⟨D 1, 0, none⟩))
  c2 : W.cell? ⟨sb, 2, none⟩ = some (.pointer (some ⟨D 2, 0, none⟩))
  c3 : W.cell? ⟨sb, 3, none⟩ = some (.pointer (some ⟨D 3, 0, none⟩))
  c4 : ∃ v, W.cell? ⟨sb, 4 + i, none⟩ = some v
  f0 : W.frozen? ⟨sb, 0, none⟩ = false
  f1 : W.frozen? ⟨sb, 1, none⟩ = false
  f2 : W.frozen? ⟨sb, 2, none⟩ = false
  f3 : W.frozen? ⟨sb, 3, none⟩ = false
  f4 : W.frozen? ⟨sb, 4 + i, none⟩ = false
  e0 : W.setCell ⟨sb, 0, none⟩ (.pointer (some ⟨D 0, 0, none⟩)) = W
  e1 : W.setCell ⟨sb, 1, none⟩ (.pointer (some ⟨D 1, 0, none⟩)) = W
  e2 : W.setCell ⟨sb, 2, none⟩ (.pointer (some ⟨D 2, 0, none⟩)) = W
  e3 : W.setCell ⟨sb, 3, none⟩ (.pointer (some ⟨D 3, 0, none⟩)) = W
  fin : Hid (DLoop w sb s o P (k + 1) (W.setCell ⟨sb, 4 + i, none⟩ (.slice none 0 0)))
theorem RFacts.mk' {w : World} {sb : Nat} {s o : BitVec 64} {P : Nat → List By} {D : Nat → Nat} {T : Nat → Value} {L : Nat → List By} {k : Nat} {V W : World} (h : DInv w sb s o D T L V) (hL : ∀ i, i < 4 → (L i).length ≤ (cat P k).length) (i : Nat) (hi : i < 4) (hF : Fr (fun k => k = D i) V W) (hT : Tk s o i (D i) [] W) : RFacts w sb s o P D i k W := by
  have hsl : sb < V.heap.size := (Array.getElem?_eq_some_iff.1 h.st).1
  have hst : W.heap[sb]? = some (.cells (scells s o D T) 36) := (hF.block sb hsl (fun e => h.sbd i hi e.symm)).trans h.st
  have hc : ∀ (j : Nat) (v : Value), (scells s o D T)[j]? = some v → W.cell? ⟨sb, j, none⟩ = some v := fun j v hv => by simp [World.cell?, hst, hv]
  have hf : ∀ (j : Nat), W.frozen? ⟨sb, j, none⟩ = false := fun j => by simp [World.frozen?, hst]
  have hv : ∃ v, (scells s o D T)[4 + i]? = some v := by
    obtain rfl | rfl | rfl | rfl : i = 0 ∨ i = 1 ∨ i = 2 ∨ i = 3 := by omega
    all_goals exact ⟨_, rfl⟩
  obtain ⟨v, hv⟩ := hv
  refine ⟨hc 0 _ rfl, hc 1 _ rfl, hc 2 _ rfl, hc 3 _ rfl, ⟨v, hc _ _ hv⟩, hf _, hf _, hf _, hf _, hf _, setCell_same W sb 0 _ 36 _ hst rfl, setCell_same W sb 1 _ 36 _ hst rfl, setCell_same W sb 2 _ 36 _ hst rfl, setCell_same W sb 3 _ 36 _ hst rfl, ?_⟩
  refine ⟨D, _, _, h.wrote i hi W hF [] hT (.slice none 0 0) (.inl ⟨rfl, rfl⟩), fun j hj => ?_⟩
  by_cases e : j = i
  · subst e
    simp [upd]
  · simp only [upd, if_neg e]
    exact Nat.le_trans (hL j hj) (cat_le P k (k + 1) (by omega))
theorem low_w (o : BitVec 64) : ((o.setWidth 32).toNat : Int) = (o.toNat : Int) % 4294967296 := by simp
namespace xxhDigests
set_option maxHeartbeats 40000000 in
set_option maxRecDepth 100000 in
theorem walk (s o : BitVec 64) (a0 : Option Addr) (g off n cap : Nat) (K N : Nat → Int) (aP : Nat → Option Addr) (cP : Nat → Nat) (P : Nat → List By) (w : World)
    (ha : 0 < n → a0 = some ⟨g, off, none⟩)
    (hc : ∀ i, i < n → ∀ V, Nw w V → V.cell? ⟨g, off + i * 3, none⟩ = some (.int .i64 (K i)) ∧ V.cell? ⟨g, off + i * 3 + 1, none⟩ = some (.int .i64 (N i)) ∧ V.cell? ⟨g, off + i * 3 + 2, none⟩ = some (.slice (aP i) (P i).length (cP i)))
    (hP : ∀ i, i < n → Old w (.slice (aP i) (P i).length (cP i)) (P i))
    (hNr : ∀ i, i < n → -9223372036854775808 ≤ N i ∧ N i ≤ 9223372036854775807)
    (hn : n ≤ 1048576) (hcat : (cat P n).length ≤ 1048576) :
    Calls Try.prog 4 #[.int .u64 s.toNat, .int .u64 o.toNat, .slice a0 n cap] w fun e w' => e = .returned (.bool true) ∧ Nw w w' := by
  have HN1 : Hid (∀ (q : BitVec 64) V, Calls Try.prog 13 #[.int .u32 ((q.toNat : Int) % 4294967296)] V fun e w' => e = .returned (.pointer (some ⟨V.heap.size, 0, none⟩)) ∧ Nw V w' ∧ Hid (Took32 V.heap.size (q.setWidth 32) [] w') ∧ w'.heap.size = V.heap.size + 1) := fun q V => (new32_any (q.setWidth 32) _ (low_w q).symm V).mono (fun e w' ⟨h1, h2, h3, h4⟩ => ⟨h1, h2, Took32.new h3, h4⟩)
  have HN2 : Hid (∀ (q : BitVec 64) V, Calls Try.prog 14 #[.int .u64 q.toNat] V fun e w' => e = .returned (.pointer (some ⟨V.heap.size, 0, none⟩)) ∧ Nw V w' ∧ Hid (Took64 V.heap.size q [] w') ∧ w'.heap.size = V.heap.size + 1) := fun q V => (new64_any q _ rfl V).mono (fun e w' ⟨h1, h2, h3, h4⟩ => ⟨h1, h2, Took64.new h3, h4⟩)
  have HC : Hid _ := hc
  have HP : Hid _ := hP
  have HA : Hid _ := ha
  have HNR : Hid _ := hNr
  have HCAT : Hid _ := hcat
  have hO1 := s.isLt
  have hO2 := o.isLt
  clear hc hP ha hNr hcat
  go_enter Try.func4, Try.ntmps4
  go_wp2_with (first
      | (go_at_call 13; with_reducible refine (HN1.out s _).mono ?_; rintro e w1 ⟨rfl, hN1, hT1, hs1⟩)
      | (go_at_call 13; with_reducible refine (HN1.out o _).mono ?_; rintro e w2 ⟨rfl, hN2, hT2, hs2⟩)
      | (go_at_call 14; with_reducible refine (HN2.out s _).mono ?_; rintro e w3 ⟨rfl, hN3, hT3, hs3⟩)
      | (go_at_call 14; with_reducible refine (HN2.out o _).mono ?_; rintro e w4 ⟨rfl, hN4, hT4, hs4⟩))
  have HI0 : Hid (DLoop w (w.heap.size + 1 + 1 + 1 + 1) s o P 0 (w4.alloc (Obj.cells #[Value.pointer (some ⟨w.heap.size, 0, none⟩), Value.pointer (some ⟨w.heap.size + 1, 0, none⟩), Value.pointer (some ⟨w.heap.size + 1 + 1, 0, none⟩), Value.pointer (some ⟨w.heap.size + 1 + 1 + 1, 0, none⟩), Value.slice none 0 0, Value.slice none 0 0, Value.slice none 0 0, Value.slice none 0 0, Value.int IntKind.u64 s.toNat, Value.int IntKind.u64 o.toNat] 36))) := by
    have hsz : w4.heap.size = w.heap.size + 1 + 1 + 1 + 1 := by omega
    have hA : Nw w4 (w4.alloc (Obj.cells #[Value.pointer (some ⟨w.heap.size, 0, none⟩), Value.pointer (some ⟨w.heap.size + 1, 0, none⟩), Value.pointer (some ⟨w.heap.size + 1 + 1, 0, none⟩), Value.pointer (some ⟨w.heap.size + 1 + 1 + 1, 0, none⟩), Value.slice none 0 0, Value.slice none 0 0, Value.slice none 0 0, Value.slice none 0 0, Value.int IntKind.u64 s.toNat, Value.int IntKind.u64 o.toNat] 36)) := (Fr.refl _ _).alloc _
    have t2 := hT2.out
    have t3 := hT3.out
    have t4 := hT4.out
    rw [hs1] at t2
    rw [hs2, hs1] at t3
    rw [hs3, hs2, hs1] at t4
    refine ⟨fun i => w.heap.size + i, fun _ => .slice none 0 0, fun _ => [], ⟨?_, ?_, fun i hi => .inl ⟨rfl, rfl⟩, fun i j _ _ h => by omega, fun i hi h => by omega, ⟨by omega, fun i hi => by omega⟩, (((hN1.trans hN2).trans hN3).trans hN4).trans hA⟩, fun i hi => Nat.zero_le _⟩
    · rw [← hsz]
      exact pushed w4 _
    · intro i hi
      obtain rfl | rfl | rfl | rfl : i = 0 ∨ i = 1 ∨ i = 2 ∨ i = 3 := by omega
      · exact Took32.nw (hT1.out.nw ((hN2.trans hN3).trans hN4)) hA
      · exact Took32.nw (t2.nw (hN3.trans hN4)) hA
      · exact Took64.nw (t3.nw hN4) hA
      · exact Took64.nw t4 hA
  obtain ⟨SB, hSB⟩ : ∃ S, S = w.heap.size + 1 + 1 + 1 + 1 := ⟨_, rfl⟩
  rw [← hSB] at HI0 ⊢
  clear hT1 hT2 hT3 hT4 hs1 hs2 hs3 hs4 hN1 hN2 hN3 hN4 hSB HN1 HN2
  go_loopg [8] n (fun kx t wr => ∃ (k : Nat) (z : Int), k ≤ n ∧ n - k ≤ kx ∧ t = .int .i64 z ∧ z = k ∧ Hid (DLoop w SB s o P k wr))
  case atStart => exact ⟨0, 0, Nat.zero_le _, Nat.le_refl _, rfl, rfl, HI0⟩
  case round =>
    obtain ⟨k, z, hk, hkx, rfl, hz, HI⟩ := hrel
    clear HI0
    by_cases hlt : k < n
    · obtain rfl := HA.out (by omega)
      have hzn : z < (n : Int) := by omega
      have hz0 : 0 ≤ z := by omega
      have hzk : z.toNat = k := by omega
      have hw1 : IntKind.i64.wrap (z + 1) = z + 1 := by rw [IntKind.wrap_i64]; omega
      obtain ⟨D, T, L, hD, hL⟩ := HI.out
      obtain ⟨q1, q2, q3⟩ := HC.out k hlt wr hD.nw
      have hr1 : (N k).tmod 4 < 4 := Int.tmod_lt_of_pos _ (by decide)
      have hr2 : -4 < (N k).tmod 4 := Int.lt_tmod_of_pos _ (by decide)
      have hcat1 : (cat P k).length + (P k).length ≤ 1048576 := by
        have := cat_le P (k + 1) n (by omega)
        simp only [cat, List.length_append] at this
        have := HCAT.out
        omega
      have hLL : ∀ i, i < 4 → (L i).length ≤ 1048576 := fun i hi => by have := hL i hi; omega
      have HM : Hid (DLoop w SB s o P (k + 1) wr) := HI.out.more (Fr.refl _ _)
      by_cases hneg : (N k).tmod 4 < 0
      · have hw4 : IntKind.i64.wrap ((N k).tmod 4 + 4) = (N k).tmod 4 + 4 := by rw [IntKind.wrap_i64]; omega
        have h40 : 0 ≤ (N k).tmod 4 + 4 := by omega
        have h41 : (N k).tmod 4 + 4 < 4 := by omega
        obtain ⟨i, hi, hzz⟩ : ∃ i : Nat, i < 4 ∧ (N k).tmod 4 + 4 = (i : Int) := ⟨((N k).tmod 4 + 4).toNat, by omega, by omega⟩
        have htn : ((N k).tmod 4 + 4).toNat = i := by omega
        have h42 : (i : Int) < 4 := by omega
        have HT : Hid (Calls Try.prog 16 #[.pointer (some ⟨SB, 0, none⟩), .int .i64 (i : Int)] wr fun e w' => e = .returned (.bool true) ∧ Hid (DLoop w SB s o P (k + 1) w')) := (tells_at w SB s o D T L wr hD hLL i hi _ rfl).mono (fun e w' h => ⟨h.1, HI.out.more h.2⟩)
        have HW : Hid (Calls Try.prog 15 #[.pointer (some ⟨SB, 0, none⟩), .int .i64 (i : Int), .slice (aP k) (P k).length (cP k)] wr fun e w' => e = .returned (.bool true) ∧ Hid (DLoop w SB s o P (k + 1) w')) := (writes_at w SB s o D T L wr hD _ _ _ (HP.out k hlt) i hi (by have := hL i hi; omega) _ rfl).mono (fun e w' h => ⟨h.1, by obtain ⟨h1, t, h2⟩ := h; exact ⟨D, _, _, h2, grown_le P k L hL i⟩⟩)
        have HK : Hid (Calls Try.prog 18 #[.pointer (some ⟨SB, 0, none⟩), .int .i64 (i : Int)] wr fun e w' => e = .returned (.bool true) ∧ Hid (DLoop w SB s o P (k + 1) w')) := (clones_at w SB s o D T L wr hD i hi _ rfl).mono (fun e w' h => ⟨h.1, by obtain ⟨h1, d, h2⟩ := h; exact DLoop.more ⟨_, T, L, h2, hL⟩ (Fr.refl _ _)⟩)
        have HR : Hid (Calls Try.prog 17 #[.pointer (some ⟨SB, 0, none⟩), .int .i64 (i : Int)] wr fun e w1 => e = .returned (.tuple #[.pointer (some ⟨D 0, 0, none⟩), .pointer (some ⟨D 1, 0, none⟩), .pointer (some ⟨D 2, 0, none⟩), .pointer (some ⟨D 3, 0, none⟩)]) ∧ RFacts w SB s o P D i k w1) := (reset_at w SB s o D T L wr hD i hi _ rfl).mono (fun e w1 h => ⟨h.1, RFacts.mk' hD hL i hi h.2.1 h.2.2⟩)
        clear hD hL hLL HC HP HA HCAT HNR HI
        generalize (P k).length = pn at *
        generalize aP k = pa at *
        generalize cP k = pc at *
        go_wp2_with (first
          | (go_at_call 15; with_reducible refine (HW.out).mono ?_; rintro e w1 ⟨rfl, HE1⟩)
          | (go_at_call 16; with_reducible refine (HT.out).mono ?_; rintro e w1 ⟨rfl, HE1⟩)
          | (go_at_call 18; with_reducible refine (HK.out).mono ?_; rintro e w1 ⟨rfl, HE1⟩)
          | (go_at_call 17; with_reducible refine (HR.out).mono ?_; rintro e w1 ⟨rfl, HRF⟩; obtain ⟨c0, c1, c2, c3, ⟨vt, c4⟩, f0, f1, f2, f3, f4, e0, e1, e2, e3, HE1⟩ := HRF))
        all_goals go_roundg (n - (k + 1))
        all_goals (first | omega | exact ⟨k + 1, _, by omega, by omega, rfl, by omega, by first | assumption | (rw [e0, e1, e2, e3]; assumption)⟩)
      · skip
        have h40 : 0 ≤ (N k).tmod 4 := by omega
        have h41 : (N k).tmod 4 < 4 := by omega
        obtain ⟨i, hi, hzz⟩ : ∃ i : Nat, i < 4 ∧ (N k).tmod 4 = (i : Int) := ⟨((N k).tmod 4).toNat, by omega, by omega⟩
        have htn : ((N k).tmod 4).toNat = i := by omega
        have h42 : (i : Int) < 4 := by omega
        have HT : Hid (Calls Try.prog 16 #[.pointer (some ⟨SB, 0, none⟩), .int .i64 (i : Int)] wr fun e w' => e = .returned (.bool true) ∧ Hid (DLoop w SB s o P (k + 1) w')) := (tells_at w SB s o D T L wr hD hLL i hi _ rfl).mono (fun e w' h => ⟨h.1, HI.out.more h.2⟩)
        have HW : Hid (Calls Try.prog 15 #[.pointer (some ⟨SB, 0, none⟩), .int .i64 (i : Int), .slice (aP k) (P k).length (cP k)] wr fun e w' => e = .returned (.bool true) ∧ Hid (DLoop w SB s o P (k + 1) w')) := (writes_at w SB s o D T L wr hD _ _ _ (HP.out k hlt) i hi (by have := hL i hi; omega) _ rfl).mono (fun e w' h => ⟨h.1, by obtain ⟨h1, t, h2⟩ := h; exact ⟨D, _, _, h2, grown_le P k L hL i⟩⟩)
        have HK : Hid (Calls Try.prog 18 #[.pointer (some ⟨SB, 0, none⟩), .int .i64 (i : Int)] wr fun e w' => e = .returned (.bool true) ∧ Hid (DLoop w SB s o P (k + 1) w')) := (clones_at w SB s o D T L wr hD i hi _ rfl).mono (fun e w' h => ⟨h.1, by obtain ⟨h1, d, h2⟩ := h; exact DLoop.more ⟨_, T, L, h2, hL⟩ (Fr.refl _ _)⟩)
        have HR : Hid (Calls Try.prog 17 #[.pointer (some ⟨SB, 0, none⟩), .int .i64 (i : Int)] wr fun e w1 => e = .returned (.tuple #[.pointer (some ⟨D 0, 0, none⟩), .pointer (some ⟨D 1, 0, none⟩), .pointer (some ⟨D 2, 0, none⟩), .pointer (some ⟨D 3, 0, none⟩)]) ∧ RFacts w SB s o P D i k w1) := (reset_at w SB s o D T L wr hD i hi _ rfl).mono (fun e w1 h => ⟨h.1, RFacts.mk' hD hL i hi h.2.1 h.2.2⟩)
        clear hD hL hLL HC HP HA HCAT HNR HI
        generalize (P k).length = pn at *
        generalize aP k = pa at *
        generalize cP k = pc at *
        go_wp2_with (first
          | (go_at_call 15; with_reducible refine (HW.out).mono ?_; rintro e w1 ⟨rfl, HE1⟩)
          | (go_at_call 16; with_reducible refine (HT.out).mono ?_; rintro e w1 ⟨rfl, HE1⟩)
          | (go_at_call 18; with_reducible refine (HK.out).mono ?_; rintro e w1 ⟨rfl, HE1⟩)
          | (go_at_call 17; with_reducible refine (HR.out).mono ?_; rintro e w1 ⟨rfl, HRF⟩; obtain ⟨c0, c1, c2, c3, ⟨vt, c4⟩, f0, f1, f2, f3, f4, e0, e1, e2, e3, HE1⟩ := HRF))
        all_goals go_roundg (n - (k + 1))
        all_goals (first | omega | exact ⟨k + 1, _, by omega, by omega, rfl, by omega, by first | assumption | (rw [e0, e1, e2, e3]; assumption)⟩)
    · obtain rfl : k = n := by omega
      have hzn : ¬ z < (k : Int) := by omega
      obtain ⟨D, T, L, hD, hL⟩ := HI.out
      have hLL : ∀ i, i < 4 → (L i).length ≤ 1048576 := fun i hi => by have := hL i hi; have := HCAT.out; omega
      have HE0 : Hid (∀ V, Nw wr V → Calls Try.prog 16 #[.pointer (some ⟨SB, 0, none⟩), .int .i64 0] V fun e w' => e = .returned (.bool true) ∧ Nw wr w') := fun V hV => cbase hV (tells_at w SB s o D T L V (hD.nws hV) hLL 0 (by decide) _ rfl)
      have HE1 : Hid (∀ V, Nw wr V → Calls Try.prog 16 #[.pointer (some ⟨SB, 0, none⟩), .int .i64 1] V fun e w' => e = .returned (.bool true) ∧ Nw wr w') := fun V hV => cbase hV (tells_at w SB s o D T L V (hD.nws hV) hLL 1 (by decide) _ rfl)
      have HE2 : Hid (∀ V, Nw wr V → Calls Try.prog 16 #[.pointer (some ⟨SB, 0, none⟩), .int .i64 2] V fun e w' => e = .returned (.bool true) ∧ Nw wr w') := fun V hV => cbase hV (tells_at w SB s o D T L V (hD.nws hV) hLL 2 (by decide) _ rfl)
      have HE3 : Hid (∀ V, Nw wr V → Calls Try.prog 16 #[.pointer (some ⟨SB, 0, none⟩), .int .i64 3] V fun e w' => e = .returned (.bool true) ∧ Nw wr w') := fun V hV => cbase hV (tells_at w SB s o D T L V (hD.nws hV) hLL 3 (by decide) _ rfl)
      have hNr := hD.nw
      clear hD hL hLL HC HP HA HCAT HNR HI
      go_wp2_with (first
        | (go_at_call 16; with_reducible refine (HE0.out _ ?_).mono ?_; (first | assumption | exact Fr.refl _ _); rintro e u1 ⟨rfl, hu1⟩)
        | (go_at_call 16; with_reducible refine (HE1.out _ ?_).mono ?_; (first | assumption | exact Fr.refl _ _); rintro e u2 ⟨rfl, hu2⟩)
        | (go_at_call 16; with_reducible refine (HE2.out _ ?_).mono ?_; (first | assumption | exact Fr.refl _ _); rintro e u3 ⟨rfl, hu3⟩)
        | (go_at_call 16; with_reducible refine (HE3.out _ ?_).mono ?_; (first | assumption | exact Fr.refl _ _); rintro e u4 ⟨rfl, hu4⟩))
      all_goals go_ret
      all_goals exact ⟨by simp, hNr.trans (by assumption)⟩
end xxhDigests
end Go.Proofs.Ytlfcgldbgejfbaa
