import Derived.Test.YtincbbnppcpfpaaDoorUbn
import Derived.Test.YtincbbnppcpfpaaDoorUbo
import Derived.Deep.Matrix
namespace Go.Proofs.YtincbbnppcpfpaaDoor
open Go.ChangeShapes Go.WideShapes Go.ChangeAt Go.RowKit Go.Deep
set_option linter.unusedVariables false
/-! ### Two slices of one's own, apart -/
def Tw (D : Nat) (va : Value) (all : List By) (vp : Value) (plain : List By) (V : World) : Prop := ∃ A B : Nat → Prop, (∀ k, A k → D ≤ k ∧ k < V.heap.size) ∧ (∀ k, B k → D ≤ k ∧ k < V.heap.size) ∧ (∀ k, A k → ¬ B k) ∧ Mine (fun k => ¬ A k) va all V ∧ Mine (fun k => ¬ B k) vp plain V
theorem Tw.start (D : Nat) (V : World) : Tw D (.slice none 0 0) [] (.slice none 0 0) [] V := ⟨fun _ => False, fun _ => False, fun k h => h.elim, fun k h => h.elim, fun k h => h.elim, Mine.nil _ _, Mine.nil _ _⟩
theorem Tw.nw {D : Nat} {va vp : Value} {all plain : List By} {V V' : World} (h : Tw D va all vp plain V) (f : Nw V V') : Tw D va all vp plain V' := by
  obtain ⟨A, B, h1, h2, h3, h4, h5⟩ := h
  have hs := f.size
  exact ⟨A, B, fun k hk => ⟨(h1 k hk).1, by have := (h1 k hk).2; omega⟩, fun k hk => ⟨(h2 k hk).1, by have := (h2 k hk).2; omega⟩, h3, h4.nw f, h5.nw f⟩
theorem Tw.swap {D : Nat} {va vp : Value} {all plain : List By} {V : World} (h : Tw D va all vp plain V) : Tw D vp plain va all V := by
  obtain ⟨A, B, h1, h2, h3, h4, h5⟩ := h
  exact ⟨B, A, h2, h1, fun k hk ha => h3 k ha hk, h5, h4⟩
theorem Tw.form {D : Nat} {va vp : Value} {all plain : List By} {V : World} (h : Tw D va all vp plain V) : ∃ a k, va = .slice a all.length k := by
  obtain ⟨A, B, h1, h2, h3, h4, h5⟩ := h
  obtain ⟨a, k, e, _, _⟩ := h4.sl.form
  exact ⟨a, k, e⟩
theorem Tw.old {D : Nat} {va vp : Value} {all plain : List By} {V : World} (h : Tw D va all vp plain V) : Old V va all := by
  obtain ⟨A, B, h1, h2, h3, h4, h5⟩ := h
  exact h4.old
/-- Bytes put behind the first. -/
theorem Tw.app {D : Nat} {va vp : Value} {all plain : List By} {V : World} (h : Tw D va all vp plain V) (hD : D ≤ V.heap.size) (x : Value) (m : List By) (hx : Sl (fun _ => False) x m V) (hb : all.length + m.length ≤ 200000000000000) :
    ∃ a' k' W, Hid (∀ ty, (Builtin.append_ #[22, 22] ty #[va, x]).run Tryd.prog V = .ok (.slice a' (all.length + m.length) k') W) ∧ Tw D (.slice a' (all.length + m.length) k') (all ++ m) vp plain W ∧ Fr (fun k => D ≤ k) V W := by
  obtain ⟨A, B, h1, h2, h3, h4, h5⟩ := h
  obtain ⟨v', W, hap, hM, hF⟩ := mine_app (fun k => k < V.heap.size ∧ ¬ A k) V (fun k hk => hk.1) va all (h4.more (fun k hk => .inl hk.2)) x m hx hb
  obtain ⟨a', k', e, _, _⟩ := hM.sl.form
  rw [List.length_append] at e
  subst e
  have hs := hF.size
  refine ⟨a', k', W, hap, ⟨fun k => A k ∨ (V.heap.size ≤ k ∧ k < W.heap.size), B, fun k hk => ?_, fun k hk => ⟨(h2 k hk).1, by have := (h2 k hk).2; omega⟩, fun k hk hb => ?_, ?_, ?_⟩, hF.mono (fun k hk => .inl ?_)⟩
  · rcases hk with hk | hk
    · exact ⟨(h1 k hk).1, by have := (h1 k hk).2; omega⟩
    · exact ⟨by omega, hk.2⟩
  · rcases hk with hk | hk
    · exact h3 k hk hb
    · have := (h2 k hb).2; omega
  · rcases hM with h | ⟨g, g1, g2⟩
    · exact .inl h
    · have := g2.lt
      refine .inr ⟨g, fun hx => hx ?_, g2⟩
      by_cases hg : g < V.heap.size
      · exact .inl (Classical.not_not.1 (fun ha => g1 ⟨hg, ha⟩))
      · exact .inr ⟨by omega, this⟩
  · refine h5.kept hF (fun g hg => ?_)
    by_cases hlt : g < V.heap.size
    · left
      intro hb
      exact hg ⟨hlt, fun ha => h3 g ha hb⟩
    · exact .inr (by omega)
  · by_cases hlt : k < V.heap.size
    · have ha : A k := Classical.not_not.1 (fun ha => hk ⟨hlt, ha⟩)
      exact (h1 k ha).1
    · omega
/-! ### Rows of bytes that came in -/
def bys (Z : List Int) (L : Nat) : List By := (Z.take L).map (fun n => BitVec.ofNat 8 n.toNat)
theorem rowB {W : World} {A : Option Addr} {L C : Nat} {Z : List Int} (hl : L ≤ C) (hm : C ≤ maxLen) (hz : Z.length = C) (hw : ∀ n ∈ Z, (Lit.int .u8 n).wf = true) (h0 : A = none → C = 0) (hc : ∀ a', A = some a' → 0 ≤ a'.block ∧ ∀ c, c < C → W.cell? (a'.add c) = some (.int .u8 (Z.getD c 0))) :
    Old W (.slice A L C) (bys Z L) ∧ (bys Z L).length = L := by
  have hlen : (bys Z L).length = L := by simp [bys]; omega
  refine ⟨?_, hlen⟩
  by_cases h : C = 0
  · subst h
    obtain rfl : L = 0 := by omega
    exact .inl ⟨A, rfl, by simp [bys]⟩
  · cases A with
    | none => exact absurd (h0 rfl) h
    | some x =>
      obtain ⟨_, hc⟩ := hc x rfl
      obtain ⟨b, off, spot⟩ := x
      have hc0 := hc 0 (by omega)
      have hspot : spot = none := by simpa [Addr.add] using World.cell?_spot hc0
      subst hspot
      have hb : b < W.heap.size := by have := World.block_lt_of_cell? _ _ hc0; simpa [Addr.add] using this
      refine .inr ⟨b, by omega, off, C, by rw [hlen], by rw [hlen]; exact hl, by unfold maxLen at hm; omega, ?_⟩
      intro j hj
      rw [hlen] at hj
      have hcj := hc j (by omega)
      rw [add_plain] at hcj
      rw [hcj]
      simp only [bys, List.getElem_map, List.getElem_take]
      have hmem : Z.getD j 0 ∈ Z := by
        rw [List.getD_eq_getElem?_getD, List.getElem?_eq_getElem (show j < Z.length by omega)]; simp
      rw [byte_of (hw _ hmem)]
      simp [List.getD_eq_getElem?_getD, List.getElem?_eq_getElem (show j < Z.length by omega)]
theorem cellsBs : Tryd.prog.cellsOf 22 = 1 := by kernel_rfl
theorem bytesBs : Tryd.prog.bytesOf 22 = 24 := by kernel_rfl
/-- A [][]byte that came in. -/
def OldV (w : World) (v : Value) (ps : List (List By)) : Prop := ∃ a c, v = .slice a ps.length c ∧ (ps ≠ [] → ∃ g o, a = some ⟨g, o, none⟩ ∧ g < w.heap.size ∧ ∀ (i : Nat) (x : List By), ps[i]? = some x → ∃ A C, w.cell? ⟨g, o + i, none⟩ = some (.slice A x.length C) ∧ Old w (.slice A x.length C) x)
theorem openedV {H : Type} {enc : TypeId × Value → H} {W : World} {a : Option Addr} {len cap : Nat} {d : DataW H} {p : List MemPlace} (h : DataW.Trod enc Tryd.prog W 0 (fun _ => true) true 51 (.slice a len cap) d p) :
    ∃ ps : List (List By), OldV W (.slice a len cap) ps ∧ ps.length = len ∧ (len = 0 ∨ ∃ e s, d = .slice e s ∧ e.length = len) := by
  obtain ⟨fuel, hf⟩ := h
  rcases open_int_rows (k := .u8) Tryd.underlying51 Tryd.underlying22 Tryd.underlying5 cellsBs cells5 hf with ⟨hcs, _⟩ | ⟨x, l, c, A, L, C, Z, hcs, _, hl, hm, hd, hc⟩
  · simp [Value.cells] at hcs
    obtain ⟨rfl, rfl, rfl⟩ := hcs
    exact ⟨[], ⟨none, 0, rfl, fun h => absurd rfl h⟩, rfl, .inl rfl⟩
  · simp [Value.cells] at hcs
    obtain ⟨rfl, rfl, rfl⟩ := hcs
    obtain ⟨b, off, spot⟩ := x
    have hrow : ∀ i, i < len → Old W (.slice (A i) (L i) (C i)) (bys (Z i) (L i)) ∧ (bys (Z i) (L i)).length = L i := by
      intro i hi
      obtain ⟨h1, h2, h3, h4, h5, h6, h7⟩ := hc i (by omega)
      exact rowB h2 h3 h4 h5 h6 h7
    have hlen : ((List.range len).map fun i => bys (Z i) (L i)).length = len := by simp
    refine ⟨(List.range len).map fun i => bys (Z i) (L i), ⟨_, cap, by rw [hlen], fun hne => ?_⟩, hlen, .inr ⟨_, _, (Prod.ext_iff.1 hd).1, by simp⟩⟩
    have h0 : 0 < len := by
      rcases Nat.eq_zero_or_pos len with h | h
      · subst h; exact absurd rfl hne
      · exact h
    have hspot : spot = none := by simpa [Addr.add] using World.cell?_spot (hc 0 (by omega)).1
    subst hspot
    have hb : b < W.heap.size := by have := World.block_lt_of_cell? _ _ (hc 0 (by omega)).1; simpa [Addr.add] using this
    refine ⟨b, off, rfl, hb, fun i x hx => ?_⟩
    have hi : i < len := by
      have := (List.getElem?_eq_some_iff.1 hx).1
      rw [hlen] at this; exact this
    rw [List.getElem?_map, List.getElem?_range hi] at hx
    simp only [Option.map_some, Option.some.injEq] at hx
    subst hx
    refine ⟨A i, C i, ?_, ?_⟩
    · have h1 := (hc i (by omega)).1
      rw [add_plain] at h1
      rw [(hrow i hi).2]; exact h1
    · have := (hrow i hi).1
      rw [(hrow i hi).2]; exact this
end Go.Proofs.YtincbbnppcpfpaaDoor

namespace Go.Proofs.YtincbbnppcpfpaaDoor
open Go.RowKit
set_option linter.unusedVariables false
theorem slay_app (a b : List (List By)) : slay (a ++ b) = slay a ++ slay b := by
  induction a with
  | nil => rfl
  | cons x r ih => simp only [List.cons_append, slay, ih, List.append_assoc]
/-- How the law's loop stands ahead of piece i. -/
structure SgI (w : World) (ps : List (List By)) (i : Nat) (vb vw : Value) (V : World) : Prop where
  tw : Tw w.heap.size vb (slay (ps.take i)) vw (ps.take i).flatten V
  nw : Nw w V
  len : (slay (ps.take i)).length = 5 * i + (ps.take i).flatten.length
  small : ∀ x ∈ ps.take i, x.length ≤ 65535
  fits : (ps.take i).flatten.length ≤ 4194304
theorem SgI.start (w : World) (ps : List (List By)) {V : World} (h : Nw w V) : SgI w ps 0 (.slice none 0 0) (.slice none 0 0) V := ⟨Tw.start _ _, h, rfl, by simp, by simp⟩
theorem SgI.step {w : World} {ps : List (List By)} {i : Nat} {vb vw : Value} {V : World} (h : SgI w ps i vb vw V) {x : List By} (hx : ps[i]? = some x) (hn : x.length ≤ 65535) (hf : (ps.take i).flatten.length + x.length ≤ 4194304) (hi : 5 * ps.length + 4194304 ≤ 100000000000000) (vx : Value) (hv : Old w vx x) (V1 : World) (hV1 : Nw V V1) (vh : Value) (hh : Old V1 vh (shead 0 x.length)) :
    ∃ a1 k1 W1, Hid (∀ ty, (Builtin.append_ #[22, 22] ty #[vb, vh]).run Tryd.prog V1 = .ok (.slice a1 (5 * i + (ps.take i).flatten.length + 5) k1) W1) ∧ Nw w W1 ∧ ∃ a2 k2 W2, Hid (∀ ty, (Builtin.append_ #[22, 22] ty #[.slice a1 (5 * i + (ps.take i).flatten.length + 5) k1, vx]).run Tryd.prog W1 = .ok (.slice a2 (5 * i + (ps.take i).flatten.length + 5 + x.length) k2) W2) ∧ Nw w W2 ∧ ∃ a3 k3 W3, Hid (∀ ty, (Builtin.append_ #[22, 22] ty #[vw, vx]).run Tryd.prog W2 = .ok (.slice a3 ((ps.take i).flatten.length + x.length) k3) W3) ∧ Hid (SgI w ps (i + 1) (.slice a2 (5 * i + (ps.take i).flatten.length + 5 + x.length) k2) (.slice a3 ((ps.take i).flatten.length + x.length) k3) W3 ∧ (ps.take (i + 1)).flatten.length = (ps.take i).flatten.length + x.length) := by
  obtain ⟨h1, h2, h3, h4, h5⟩ := h
  have hi' : i < ps.length := (List.getElem?_eq_some_iff.1 hx).1
  have ht : ps.take (i + 1) = ps.take i ++ [x] := by
    rw [List.take_add_one, hx]; rfl
  have hs0 : (shead 0 x.length).length = 5 := rfl
  obtain ⟨a1, k1, W1, p1, t1, f1⟩ := (h1.nw hV1).app (h2.trans hV1).size vh _ (Sl.mono hh (fun _ h => h.elim)) (by omega)
  rw [hs0, h3] at p1 t1
  have n1 : Nw w W1 := Fr.then (h2.trans hV1) f1 (fun i hi => .inr hi)
  obtain ⟨a2, k2, W2, p2, t2, f2⟩ := t1.app n1.size vx x (Sl.mono (Sl.later hv n1) (fun _ h => h.elim)) (by rw [List.length_append, hs0]; omega)
  rw [List.length_append, hs0, h3] at p2 t2
  have n2 : Nw w W2 := Fr.then n1 f2 (fun i hi => .inr hi)
  obtain ⟨a3, k3, W3, p3, t3, f3⟩ := t2.swap.app n2.size vx x (Sl.mono (Sl.later hv n2) (fun _ h => h.elim)) (by omega)
  have n3 : Nw w W3 := Fr.then n2 f3 (fun i hi => .inr hi)
  have hfl : (ps.take (i + 1)).flatten = (ps.take i).flatten ++ x := by rw [ht]; simp
  refine ⟨a1, k1, W1, p1, n1, a2, k2, W2, p2, n2, a3, k3, W3, p3, ⟨?_, n3, ?_, ?_, ?_⟩, by rw [hfl, List.length_append]⟩
  · have hsl : slay (ps.take (i + 1)) = slay (ps.take i) ++ shead 0 x.length ++ x := by
      rw [ht, slay_app]; simp [slay]
    rw [hfl, hsl]
    exact t3.swap
  · rw [ht, slay_app, ← ht, hfl, List.length_append, List.length_append, h3]
    simp only [slay, List.length_append, List.append_nil, hs0]
    omega
  · rw [ht]
    intro y hy
    rcases List.mem_append.1 hy with hy | hy
    · exact h4 y hy
    · simp at hy; subst hy; exact hn
  · rw [hfl, List.length_append]; exact hf
theorem xor_byte (n : Nat) (h : n < 256) : bits .xor .u8 IntKind.u8.max (n : Int) = ((255 - n : Nat) : Int) := by
  have all : ∀ k : Fin 256, bits .xor .u8 IntKind.u8.max (k.val : Int) = ((255 - k.val : Nat) : Int) := by decide +kernel
  exact all ⟨n, h⟩
/-- What the law builds is a stored block's head. -/
theorem head_cells (X : Nat) (h : X ≤ 65535) : (#[.int .u8 0, .int .u8 ((X : Int) % 256), .int .u8 ((X : Int) / 256), .int .u8 (bits .xor .u8 IntKind.u8.max ((X : Int) % 256)), .int .u8 (bits .xor .u8 IntKind.u8.max ((X : Int) / 256))] : Array Value) = ((shead 0 X).map bv).toArray := by
  have e1 : ((X : Int) % 256) = ((X % 256 : Nat) : Int) := by omega
  have e2 : ((X : Int) / 256) = ((X / 256 : Nat) : Int) := by omega
  rw [e1, e2, xor_byte _ (by omega), xor_byte _ (by omega)]
  simp only [shead, bv, List.map_cons, List.map_nil, BitVec.toNat_ofNat]
  have f1 : X % 2 ^ 8 = X % 256 := rfl
  have f2 : X / 256 % 2 ^ 8 = X / 256 := by omega
  have f3 : (255 - X % 256) % 2 ^ 8 = 255 - X % 256 := by omega
  have f4 : (255 - X / 256) % 2 ^ 8 = 255 - X / 256 := by omega
  rw [f1, f2, f3, f4]
  rfl
/-- The loop's end: the last block, what lies behind, and what Decode makes of it. -/
theorem SgI.fin {w : World} {ps : List (List By)} {F : Nat} {vb : Value} {a2 : Option Addr} {k2 : Nat} {V : World} (h : SgI w ps ps.length vb (.slice a2 F k2) V) (hF : (ps.take ps.length).flatten.length = F) (x : Value) (b : List By) (hx : Old w x b) (hbl : 5 * ps.length + 4194314 + b.length ≤ 200000000000000) (hT : Tab w) :
    ∃ Z Y a3 k3 W3, Hid (∀ ty, (Builtin.append_ #[22, 22] ty #[vb, .slice (some ⟨V.heap.size, 0, none⟩) 5 5]).run Tryd.prog (V.alloc (.cells #[.int .u8 1, .int .u8 0, .int .u8 0, .int .u8 255, .int .u8 255] 5)) = .ok (.slice a3 Z k3) W3) ∧ ∃ a4 k4 W4, Hid (∀ ty, (Builtin.append_ #[22, 22] ty #[.slice a3 Z k3, x]).run Tryd.prog W3 = .ok (.slice a4 Y k4) W4) ∧ ∃ S, Hid (Calls Tryd.prog 10 #[.slice a4 Y k4, .int .i64 F] W4 fun e w5 => ∃ a5 k5, e = .returned (.tuple #[.slice a5 F k5, .int .i64 Z, .int .i64 0]) ∧ (convert 22 9 (.slice a5 F k5)).run Tryd.prog w5 = .ok (.string S) w5 ∧ (convert 22 9 (.slice a2 F k2)).run Tryd.prog w5 = .ok (.string S) w5 ∧ Hid (Nw w w5)) := by
  obtain ⟨h1, h2, h3, h4, h5⟩ := h
  rw [List.take_length] at h1 h3 h4 h5 hF
  have hN : Nw V (V.alloc (.cells #[.int .u8 1, .int .u8 0, .int .u8 0, .int .u8 255, .int .u8 255] 5)) := (Fr.refl _ _).alloc _
  have hh : Old (V.alloc (.cells #[.int .u8 1, .int .u8 0, .int .u8 0, .int .u8 255, .int .u8 255] 5)) (.slice (some ⟨V.heap.size, 0, none⟩) 5 5) (shead 1 0) := old_lit V (shead 1 0) _ rfl 5 rfl (by decide)
  have hs : (shead 1 0).length = 5 := rfl
  obtain ⟨a3, k3, W3, p1, t1, f1⟩ := (h1.nw hN).app (h2.trans hN).size _ _ (Sl.mono hh (fun _ h => h.elim)) (by omega)
  have n1 : Nw w W3 := Fr.then (h2.trans hN) f1 (fun i hi => .inr hi)
  obtain ⟨a4, k4, W4, p2, t2, f2⟩ := t1.app n1.size x b (Sl.mono (Sl.later hx n1) (fun _ h => h.elim)) (by rw [List.length_append]; omega)
  have n2 : Nw w W4 := Fr.then n1 f2 (fun i hi => .inr hi)
  refine ⟨_, _, a3, k3, W3, p1, a4, k4, W4, p2, str ps.flatten, ?_⟩
  have hd := slay_dec ps b h4 h5
  rw [← List.append_assoc] at hd
  have hC := idecode_any W4 _ (slay ps ++ shead 1 0 ++ b) (F : Int) (by
    have := t2.old
    rw [show ((slay ps ++ shead 1 0).length + b.length) = (slay ps ++ shead 1 0 ++ b).length by simp only [List.length_append]] at this
    exact this) (by simp only [List.length_append]; omega) (hT.kept n2 (fun h => h))
  rw [← hF, hd] at hC
  show Calls _ _ _ _ _
  rw [← hF]
  have hlen : (slay ps ++ shead 1 0 ++ b).length = (slay ps ++ shead 1 0).length + b.length := List.length_append
  rw [hlen] at hC
  refine hC.mono ?_
  rintro e w5 ⟨a5, k5, rfl, hM5, hN5⟩
  refine ⟨a5, k5, ?_, conv_any hM5.old, ?_, n2.trans hN5⟩
  · rw [List.length_append]; rfl
  · have := t2.swap.old
    rw [← hF] at this
    exact conv_any (Sl.later this hN5)
end Go.Proofs.YtincbbnppcpfpaaDoor

namespace Go.Proofs.YtincbbnppcpfpaaDoor
open Go.RowKit
set_option linter.unusedVariables false
set_option maxHeartbeats 40000000 in
set_option maxRecDepth 100000 in
theorem is_walk (w : World) (ap : Option Addr) (cp : Nat) (ps : List (List By)) (ab : Option Addr) (cb : Nat) (b : List By) (hp : OldV w (.slice ap ps.length cp) ps) (hb : Old w (.slice ab b.length cb) b) (hbl : 5 * ps.length + 4194314 + b.length ≤ 200000000000000) (hpl : ps.length ≤ 10000000000000) (hT : Tab w) :
    Calls Tryd.prog 8 #[.slice ap ps.length cp, .slice ab b.length cb] w fun e w' => e = .returned (.bool true) ∧ Nw w w' := by
  obtain ⟨P, hP⟩ : ∃ P : Ending → World → Prop, P = fun e w' => e = .returned (.bool true) ∧ Nw w w' := ⟨_, rfl⟩
  rw [← hP]
  have HT : Hid (∀ V, Nw w V → P (.returned (.bool true)) V) := fun V hV => by rw [hP]; exact ⟨rfl, hV⟩
  clear hP
  have HL : Hid (Calls Tryd.prog 17 #[] w fun e w1 => e = .returned (.bool true) ∧ Hid (Nw w w1)) := by
    show Calls _ _ _ _ _
    refine (ilives_any w hT).mono ?_
    rintro e w1 ⟨rfl, hN1⟩
    exact ⟨rfl, hN1⟩
  have HTb : Hid (Tab w) := hT
  have HP : Hid (OldV w (.slice ap ps.length cp) ps) := hp
  have HB : Hid (Old w (.slice ab b.length cb) b) := hb
  clear hT hp hb
  obtain ⟨N, hN⟩ : ∃ N, ps.length = N := ⟨_, rfl⟩
  have HN : Hid (ps.length = N) := hN
  obtain ⟨L, hL⟩ : ∃ L, b.length = L := ⟨_, rfl⟩
  have HLb : Hid (b.length = L) := hL
  rw [hN] at hbl hpl ⊢
  rw [hL] at hbl ⊢
  clear hN hL
  go_enter Tryd.func8, Tryd.ntmps8
  go_wp2_with (first | (go_at_call 17; with_reducible refine HL.out.mono ?_; rintro e w1 ⟨rfl, K1⟩))
  go_loopg [5, 6, 7] N (fun kx vb vw vi wr => ∃ (i F l1 : Nat) (a1 : Option Addr) (k1 : Nat) (a2 : Option Addr) (k2 : Nat), i ≤ N ∧ N - i ≤ kx ∧ vb = .slice a1 l1 k1 ∧ vw = .slice a2 F k2 ∧ vi = .int .i64 i ∧ F ≤ 4194304 ∧ Hid (SgI w ps i (.slice a1 l1 k1) (.slice a2 F k2) wr ∧ (ps.take i).flatten.length = F ∧ l1 = 5 * i + F))
  case atStart => exact ⟨0, 0, 0, none, 0, none, 0, by omega, by omega, rfl, rfl, rfl, by omega, SgI.start w ps K1.out, rfl, rfl⟩
  case round =>
    obtain ⟨i, F, l1, a1, k1, a2, k2, hi, hkx, rfl, rfl, rfl, hF, HI⟩ := hrel
    by_cases hlt : i < N
    · have hz1 : (i : Int) < (N : Int) := by omega
      have hi' : i < ps.length := by rw [HN.out]; exact hlt
      obtain ⟨x, hxi⟩ : ∃ x, ps[i]? = some x := ⟨_, List.getElem?_eq_getElem hi'⟩
      obtain ⟨ap', cp', e0, hop⟩ := HP.out
      injection e0 with e1 _ e3
      subst e1
      subst e3
      obtain ⟨g, o, rfl, hg, hce⟩ := hop (by rintro rfl; simp at hi')
      obtain ⟨A, C, hc1, hv⟩ := hce i x hxi
      have KEY : Hid (∀ V, Nw w V → V.cell? ⟨g, o + i, none⟩ = some (.slice A x.length C)) := fun V hV => hV.cell hc1
      obtain ⟨X, hX⟩ : ∃ X, x.length = X := ⟨_, rfl⟩
      have hcr := KEY.out _ HI.out.1.nw
      have hcr2 := KEY.out _ HI.out.1.nw.drew
      rw [hX] at hcr hcr2
      by_cases hbig : 65535 < X
      · have hz2 : (65535 : Int) < (X : Int) := by omega
        have HV : Hid (Nw w wr) := HI.out.1.nw
        clear HI KEY hop hce hc1 hv
        go_wp2
        exact HT.out _ HV.out
      · have hz2 : ¬ (65535 : Int) < (X : Int) := by omega
        by_cases hmuch : 4194304 < F + X
        · have hz3 : (4194304 : Int) < (F : Int) + (X : Int) := by omega
          have HV : Hid (Nw w wr) := HI.out.1.nw
          clear HI KEY hop hce hc1 hv
          go_wp2
          exact HT.out _ HV.out
        · have hz3 : ¬ (4194304 : Int) < (F : Int) + (X : Int) := by omega
          obtain ⟨hS, hFl, hl1⟩ := HI.out
          have hVn : Nw wr (wr.alloc (.cells #[.int .u8 0, .int .u8 ((X : Int) % 256), .int .u8 ((X : Int) / 256), .int .u8 (bits .xor .u8 IntKind.u8.max ((X : Int) % 256)), .int .u8 (bits .xor .u8 IntKind.u8.max ((X : Int) / 256))] 5)) := (Fr.refl _ _).alloc _
          obtain ⟨b1, j1, W1, HAP1, m1, b2, j2, W2, HAP2, m2, b3, j3, W3, HAP3, HK⟩ := hS.step hxi (by omega) (by omega) (by rw [HN.out]; omega) _ hv _ hVn _ (old_lit wr (shead 0 x.length) _ (by rw [hX]; exact head_cells X (by omega)) 5 rfl (by decide))
          have hcw1 := KEY.out _ m1
          have hcw2 := KEY.out _ m2
          rw [hX] at hcw1 hcw2 HAP2 HAP3 HK
          rw [hFl] at HAP1 HAP2 HAP3 HK
          rw [← hl1] at HAP1 HAP2 HK
          have HR : Hid (∃ (i' F' l1' : Nat) (a1' : Option Addr) (k1' : Nat) (a2' : Option Addr) (k2' : Nat), i' ≤ N ∧ N - i' ≤ N - (i + 1) ∧ (.slice b2 (l1 + 5 + X) j2 : Value) = .slice a1' l1' k1' ∧ (.slice b3 (F + X) j3 : Value) = .slice a2' F' k2' ∧ (.int .i64 ((i : Int) + 1) : Value) = .int .i64 i' ∧ F' ≤ 4194304 ∧ Hid (SgI w ps i' (.slice a1' l1' k1') (.slice a2' F' k2') W3 ∧ (ps.take i').flatten.length = F' ∧ l1' = 5 * i' + F')) :=
            ⟨i + 1, F + X, l1 + 5 + X, b2, j2, b3, j3, by omega, by omega, rfl, rfl, by rw [Int.natCast_add]; rfl, by omega, HK.out.1, HK.out.2, by omega⟩
          clear KEY hop hce hc1 hv HK m1 m2 hVn hS hFl hl1 HI
          go_wp2_with (first | (at_builtin; refine Lib.wpList_append_run _ rfl _ _ 22 22 rfl (.slice a1 l1 k1) (.slice (some ⟨wr.heap.size, 0, none⟩) 5 5) (by simp [Act.eval]) (by simp [Act.eval]) _ _ (HAP1.out _) ?_) | (at_builtin; refine Lib.wpList_append_run _ rfl _ _ 22 22 rfl (.slice b1 (l1 + 5) j1) (.slice A X C) (by simp [Act.eval]) (by simp [Act.eval]) _ _ (HAP2.out _) ?_) | (at_builtin; refine Lib.wpList_append_run _ rfl _ _ 22 22 rfl (.slice a2 F k2) (.slice A X C) (by simp [Act.eval]) (by simp [Act.eval]) _ _ (HAP3.out _) ?_))
          go_roundg (N - (i + 1))
          all_goals (first | omega | exact HR.out)
    · have hz1 : ¬ (i : Int) < (N : Int) := by omega
      obtain rfl : i = N := by omega
      obtain ⟨hS, hFl, _⟩ := HI.out
      obtain ⟨Z, Y, b1, j1, W1, HAP1, b2, j2, W2, HAP2, S, HC⟩ := SgI.fin (by rw [HN.out]; exact hS) (by rw [HN.out]; exact hFl) _ b HB.out (by rw [HN.out, HLb.out]; exact hbl) HTb.out
      rw [HLb.out] at HAP2
      clear hS hFl HI HP HB HTb
      go_wp2_with (first | (at_builtin; refine Lib.wpList_append_run _ rfl _ _ 22 22 rfl (.slice a1 l1 k1) (.slice (some ⟨wr.heap.size, 0, none⟩) 5 5) (by simp [Act.eval]) (by simp [Act.eval]) _ _ (HAP1.out _) ?_) | (at_builtin; refine Lib.wpList_append_run _ rfl _ _ 22 22 rfl (.slice b1 Z j1) (.slice ab L cb) (by simp [Act.eval]) (by simp [Act.eval]) _ _ (HAP2.out _) ?_) | (go_at_call 10; with_reducible refine HC.out.mono ?_; rintro e w4 ⟨a4, c4, rfl, f1, f2, K4⟩))
      exact HT.out _ K4.out
end Go.Proofs.YtincbbnppcpfpaaDoor
