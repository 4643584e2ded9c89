import Derived.Test.YtcogkhcfpgelhaaGreatVbj
import Derived.Test.YtcogkhcfpgelhaaGreatVbm
import Derived.Carry
namespace Go.Proofs.YtcogkhcfpgelhaaGreat
open Go.RowKit
set_option linter.unusedVariables false
set_option maxRecDepth 100000
variable {w w' wr V W : World} {X : Im} {o : Oq} {t0 fb I : Nat}
/-! ### Calls that came in -/
def ROq : RT Oq := { enc := fun o => (opC o).toList, k := 20, T := 39, TS := 44, z := ⟨0, false, 0, [], 0, 0, [], [], ⟨0, 0, 0, 0, 0⟩, 0, 0, [], ⟨none, 0, 0⟩, 0, 0, 0, ⟨none, 0, 0⟩⟩, by_ := 0 }
structure OqR (o : Oq) (w : World) : Prop where
  ok : OqW o
  bn : o.bs.n = o.b.length
  bsl : Sl (fun _ => False) (.slice o.bs.a o.bs.n o.bs.c) o.b w
def InO (v : Value) (l : List Oq) (w : World) : Prop := SlR ROq (fun _ => False) v l w ∧ ∀ o ∈ l, OqR o w
theorem OqR.nw (h : OqR o w) (f : Nw w w') : OqR o w' := { h with bsl := h.bsl.nw f }
theorem InO.nw {v : Value} {l : List Oq} (h : InO v l w) (f : Nw w w') : InO v l w' := ⟨h.1.nw f, fun o ho => (h.2 o ho).nw f⟩
/-- The cells of a call that came in. -/
def OqC (g o : Nat) (x : Oq) (w : World) : Prop := ∀ j u, (opC x)[j]? = some u → w.cell? ⟨g, o + j, none⟩ = some u
theorem InO.at {a : Option Addr} {n c : Nat} {l : List Oq} (h : InO (.slice a n c) l w) (I : Nat) (hI : I < l.length) : ∃ g o, a = some ⟨g, o, none⟩ ∧ OqC g (o + I * 20) l[I] w := by
  obtain ⟨g, o, e, _, hc⟩ := h.1.at I l[I] (List.getElem?_eq_getElem hI)
  exact ⟨g, o, e, fun j u hj => hc j u (by simpa [ROq] using hj)⟩
/-! ### How a file system that was loaded stands -/
def FmX (w : World) (t0 fb I : Nat) (X : Im) (wr : World) : Prop := ∃ mb ot L T, FsH fb mb ot L (hOf X) (qOf X.l) X.l.length T wr ∧ Nw w wr ∧ (∀ k, Bk fb mb ot L (qOf X.l) k → w.heap.size ≤ k) ∧ WF X ∧ totE X.l ≤ t0 + I ∧ T.length ≤ I
theorem FmX.nw (h : FmX w t0 fb I X wr) (f : Nw wr w') : FmX w t0 fb I X w' := by
  obtain ⟨mb, ot, L, T, h1, h2, h3⟩ := h
  exact ⟨mb, ot, L, T, h1.nw f, h2.trans f, h3⟩
theorem FmX.n (h : FmX w t0 fb I X wr) : Nw w wr := by obtain ⟨mb, ot, L, T, h1, h2, h3⟩ := h; exact h2
theorem acts_one (X : Im) (o : Oq) : (opR X o).acts.length ≤ 1 := by
  have hA : ∀ op d s kd mt tgt, (addR X op d s kd mt tgt).acts.length ≤ 1 := fun _ _ _ _ _ _ => by unfold addR; split <;> simp
  have hR : ∀ op d s b, (remR X op d s b).acts.length ≤ 1 := fun _ _ _ _ => by unfold remR; split <;> simp
  unfold opR
  by_cases h1 : o.kind = 1
  · rw [if_pos h1]; exact hA ..
  rw [if_neg h1]
  by_cases h2 : o.kind = 2
  · rw [if_pos h2]; exact hA ..
  rw [if_neg h2]
  by_cases h3 : o.kind = 3
  · rw [if_pos h3]; exact hA ..
  rw [if_neg h3]
  by_cases h4 : o.kind = 4
  · rw [if_pos h4]; unfold lnkR; split <;> simp
  rw [if_neg h4]
  by_cases h5 : o.kind = 5
  · rw [if_pos h5]; unfold wrR; split <;> simp
  rw [if_neg h5]
  by_cases h6 : o.kind = 6
  · rw [if_pos h6]; unfold rszR; split <;> simp
  rw [if_neg h6]
  by_cases h7 : o.kind = 7
  · rw [if_pos h7]; exact hR ..
  rw [if_neg h7]
  by_cases h8 : o.kind = 8
  · rw [if_pos h8]; exact hR ..
  rw [if_neg h8]
  by_cases h9 : o.kind = 9
  · rw [if_pos h9]; unfold rnR; split <;> simp
  rw [if_neg h9]
  by_cases h10 : o.kind = 10
  · rw [if_pos h10]; unfold chR; split <;> simp
  rw [if_neg h10]
  by_cases h11 : o.kind = 11
  · rw [if_pos h11]; simp
  rw [if_neg h11]
  by_cases h12 : o.kind = 12
  · rw [if_pos h12]; simp
  rw [if_neg h12]
  by_cases h13 : o.kind = 13
  · rw [if_pos h13]; simp
  rw [if_neg h13]
  by_cases h14 : o.kind = 14
  · rw [if_pos h14]; simp
  rw [if_neg h14]
  simp
theorem fm_start {X0 : Im} {mb : Nat} (h1 : ldX X0 X) (h2 : Blt X w fb mb wr) (ht : totE X0.l ≤ t0) : FmX w t0 fb 0 X wr := by
  obtain ⟨L, k1, k2, k3⟩ := h2
  exact ⟨mb, none, L, [], k1, k2, k3, h1.1, Nat.le_trans h1.2 ht, Nat.le_refl _⟩
theorem fm_calls (h : FmX w t0 fb I X wr) (hb : t0 + I ≤ 1000000) (ho : OqR o wr) : Calls Tryz.prog 18 #[.pointer (some ⟨fb, 0, none⟩), .agg (opC o)] wr fun e w1 => ∃ a b, e = .returned (.tuple #[.int .i64 a, .int .i64 b]) ∧ Hid (a = (opR X o).n ∧ b = (opR X o).e ∧ FmX w t0 fb (I + 1) (opR X o).X w1) := by
  obtain ⟨mb, ot, L, T, k1, k2, k3, k4, k5, k6⟩ := h
  refine Calls.mono (calls_any ⟨k4, by omega, k1, by omega, ho.ok, ho.bn, ho.bsl⟩) (fun e w1 hh => ?_)
  obtain ⟨e1, ot', L', m1, m2, m3⟩ := hh
  have := k2.size
  have hg := opR_good k4 o
  have ha := acts_one X o
  refine ⟨_, _, e1, rfl, rfl, mb, ot', L', _, m1, k2.then m2 (fun k hk => .inr (k3 k hk)), fun k hk => ?_, hg.1, by omega, by simp only [List.length_append]; omega⟩
  rcases m3 k hk with h | h
  · exact k3 k h
  · omega
/-- The same, with its image. -/
def FmJ (w : World) (t0 fb I : Nat) (X : Im) (a : Option Addr) (n c : Nat) (wr : World) : Prop := FmX w t0 fb I X wr ∧ ∃ l, ImR (.slice a n c) l wr ∧ l.map Nq.x = X.l ∧ l.length = n
theorem FmJ.nw {a : Option Addr} {n c : Nat} (h : FmJ w t0 fb I X a n c wr) (f : Nw wr w') : FmJ w t0 fb I X a n c w' := by
  obtain ⟨h1, l, h2, h3, h4⟩ := h
  exact ⟨h1.nw f, l, h2.nw f, h3, h4⟩
theorem fm_image (h : FmX w t0 fb I X wr) (hb : t0 + I ≤ 1000000) : Calls Tryz.prog 19 #[.pointer (some ⟨fb, 0, none⟩)] wr fun e w1 => ∃ a n c, e = .returned (imV X (.slice a n c)) ∧ Hid (FmJ w t0 fb I X a n c w1) := by
  have h0 := h
  obtain ⟨mb, ot, L, T, k1, k2, k3, k4, k5, k6⟩ := h
  refine Calls.mono (image_X k4 (by omega) k1) (fun e w1 hh => ?_)
  obtain ⟨a, n, c, l, e1, e2, e3, e4⟩ := hh
  exact ⟨a, n, c, e1, h0.nw e2.1, l, e2.r, e3, e4⟩
theorem FmJ.len {a : Option Addr} {n c : Nat} (h : FmJ w t0 fb I X a n c wr) : n = X.l.length := by
  obtain ⟨h1, l, h2, h3, h4⟩ := h
  rw [← h4, ← h3, List.length_map]
theorem FmX.wf (h : FmX w t0 fb I X wr) : WF X := by obtain ⟨mb, ot, L, T, k1, k2, k3, k4, k5, k6⟩ := h; exact k4
theorem fm_free {a : Option Addr} {n c : Nat} (h : FmJ w t0 fb I X a n c wr) : Calls Tryz.prog 20 #[.pointer (some ⟨fb, 0, none⟩)] wr fun e w1 => e = .returned (.tuple #[.int .i64 (X.nodes - (n : Int)), .int .i64 (X.bytes - (heldF X.l : Int))]) ∧ Hid (Nw wr w1) := by
  have hn := h.len
  obtain ⟨⟨mb, ot, L, T, k1, k2, k3, k4, k5, k6⟩, _⟩ := h
  have h1 := wf_held k4
  have h2 := wf_cnt k4
  have h3 := k4.n1
  have h4 := k4.n2
  refine Calls.mono (free_any k1 ⟨by show 0 ≤ X.nodes; omega, by show X.nodes ≤ _; omega⟩ (by omega) (by omega) (by omega)) (fun e w1 hh => ?_)
  obtain ⟨rfl, h5⟩ := hh
  exact ⟨by rw [hn]; rfl, h5⟩
theorem wf_ndw (hX : WF X) (ht : totE X.l ≤ 1000000) {x : Nd} (hx : x ∈ X.l) : NdW x := by
  have h1 := hX.kinds x hx
  have h2 := hX.nums x hx
  have h3 := hX.x2
  have h4 := Nat.le_trans (sumF_mem (fun x => x.ents.length) hx) ht
  refine ⟨by have := h1.tlen; omega, fun e he => ?_, fun e he => ?_, i64_of (by omega) (by omega), ?_, by have := h1.len; omega, by omega⟩
  · exact ((wf_ents hX hx).ent e he).1
  · obtain ⟨_, _, y, hy, hyn⟩ := hX.es x hx e he
    have := hX.nums y hy
    exact i64_of (by omega) (by omega)
  · rcases h1.2 with h | h | h <;> rw [h.1] <;> unfold I64 <;> omega
theorem fm_valid {a : Option Addr} {n c : Nat} (h : FmJ w t0 fb I X a n c wr) (hb : t0 + I ≤ 1000000) : Calls Tryz.prog 21 #[imV X (.slice a n c)] wr fun e w1 => e = .returned (.bool true) ∧ Hid (Nw wr w1) := by
  obtain ⟨⟨mb, ot, L, T, k1, k2, k3, k4, k5, k6⟩, l, h2, h3, h4⟩ := h
  refine Calls.mono (valid_any X l a n c h3 h4.symm h2 (fun y hy => wf_ndw k4 (by omega) (by rw [← h3]; exact List.mem_map_of_mem hy))) (fun e w1 hh => ?_)
  obtain ⟨B, rfl, hB, hN⟩ := hh
  rw [hB.2 k4]
  exact ⟨rfl, hN⟩
theorem fm_at {a : Option Addr} {n c : Nat} (h : FmJ w t0 fb I X a n c wr) (J : Nat) (hJ : J < n) : ∃ g o y, a = some ⟨g, o, none⟩ ∧ X.l[J]? = some y.x ∧ y.d.n = y.x.data.length ∧ NqC g (o + J * 10) y wr ∧ y.d.n ≤ y.d.c ∧ y.d.c < 9223372036854775808 := by
  obtain ⟨h1, l, h2, h3, h4⟩ := h
  have hl : J < l.length := by omega
  obtain ⟨g, o, e, hc⟩ := h2.at J hl
  have hd := (h2.2 _ (List.getElem_mem hl)).dn
  exact ⟨g, o, l[J], e, by rw [← h3, List.getElem?_map, List.getElem?_eq_getElem hl]; rfl, hd.1, hc, hd.2.2, hd.2.1⟩
theorem held_le (X : Im) (J : Nat) : heldF (X.l.take J) ≤ heldF X.l := by
  conv => rhs; rw [← List.take_append_drop J X.l]
  rw [heldF_sum, heldF_sum, sumF_append]
  omega
end Go.Proofs.YtcogkhcfpgelhaaGreat
