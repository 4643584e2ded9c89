import Derived.Test.YtcogkhcfpgelhabGreatWxan
import Derived.Test.YtcogkhcfpgelhabGreatWxap
import Derived.Carry
import Derived.Laws.StructEq
import Derived.BigRegion
import Derived.Deep.MidRow
namespace Go.Proofs.YtcogkhcfpgelhabGreat
open Go.RowKit
set_option linter.unusedVariables false
set_option maxRecDepth 100000
variable {w w' wr V W : World} {X : Im} {o : Oq} {t0 fb I : Nat}
/-! ### Calls that came in -/
def ROq : RT Oq := { enc := fun o => (opC o).toList, k := 20, T := 40, TS := 25, z := ⟨0, false, 0, [], 0, 0, [], [], ⟨0, 0, 0, 0, 0⟩, 0, 0, [], ⟨none, 0, 0⟩, 0, 0, 0, ⟨none, 0, 0⟩⟩, by_ := 0 }
structure OqR (o : Oq) (w : World) : Prop where
  ok : OqW o
  bn : o.bs.n = o.b.length
  bsl : Sl (fun _ => False) (.slice o.bs.a o.bs.n o.bs.c) o.b w
def InO (v : Value) (l : List Oq) (w : World) : Prop := SlR ROq (fun _ => False) v l w ∧ ∀ o ∈ l, OqR o w
theorem OqR.nw (h : OqR o w) (f : Nw w w') : OqR o w' := { h with bsl := h.bsl.nw f }
theorem InO.nw {v : Value} {l : List Oq} (h : InO v l w) (f : Nw w w') : InO v l w' := ⟨h.1.nw f, fun o ho => (h.2 o ho).nw f⟩
/-- The cells of a call that came in. -/
def OqC (g o : Nat) (x : Oq) (w : World) : Prop := ∀ j u, (opC x)[j]? = some u → w.cell? ⟨g, o + j, none⟩ = some u
theorem InO.at {a : Option Addr} {n c : Nat} {l : List Oq} (h : InO (.slice a n c) l w) (I : Nat) (hI : I < l.length) : ∃ g o, a = some ⟨g, o, none⟩ ∧ OqC g (o + I * 20) l[I] w := by
  obtain ⟨g, o, e, _, hc⟩ := h.1.at I l[I] (List.getElem?_eq_getElem hI)
  exact ⟨g, o, e, fun j u hj => hc j u (by simpa [ROq] using hj)⟩
/-! ### How a file system that was loaded stands -/
def FmX (w : World) (t0 fb I : Nat) (X : Im) (wr : World) : Prop := ∃ mb ot L T, FsH fb mb ot L (hOf X) (qOf X.l) X.l.length T wr ∧ Nw w wr ∧ (∀ k, Bk fb mb ot L (qOf X.l) k → w.heap.size ≤ k) ∧ WF X ∧ totE X.l ≤ t0 + I ∧ T.length ≤ I
theorem FmX.nw (h : FmX w t0 fb I X wr) (f : Nw wr w') : FmX w t0 fb I X w' := by
  obtain ⟨mb, ot, L, T, h1, h2, h3⟩ := h
  exact ⟨mb, ot, L, T, h1.nw f, h2.trans f, h3⟩
theorem FmX.n (h : FmX w t0 fb I X wr) : Nw w wr := by obtain ⟨mb, ot, L, T, h1, h2, h3⟩ := h; exact h2
theorem acts_one (X : Im) (o : Oq) : (opR X o).acts.length ≤ 1 := by
  have hA : ∀ op d s kd mt tgt, (addR X op d s kd mt tgt).acts.length ≤ 1 := fun _ _ _ _ _ _ => by unfold addR; split <;> simp
  have hR : ∀ op d s b, (remR X op d s b).acts.length ≤ 1 := fun _ _ _ _ => by unfold remR; split <;> simp
  unfold opR
  by_cases h1 : o.kind = 1
  · rw [if_pos h1]; exact hA ..
  rw [if_neg h1]
  by_cases h2 : o.kind = 2
  · rw [if_pos h2]; exact hA ..
  rw [if_neg h2]
  by_cases h3 : o.kind = 3
  · rw [if_pos h3]; exact hA ..
  rw [if_neg h3]
  by_cases h4 : o.kind = 4
  · rw [if_pos h4]; unfold lnkR; split <;> simp
  rw [if_neg h4]
  by_cases h5 : o.kind = 5
  · rw [if_pos h5]; unfold wrR; split <;> simp
  rw [if_neg h5]
  by_cases h6 : o.kind = 6
  · rw [if_pos h6]; unfold rszR; split <;> simp
  rw [if_neg h6]
  by_cases h7 : o.kind = 7
  · rw [if_pos h7]; exact hR ..
  rw [if_neg h7]
  by_cases h8 : o.kind = 8
  · rw [if_pos h8]; exact hR ..
  rw [if_neg h8]
  by_cases h9 : o.kind = 9
  · rw [if_pos h9]; unfold rnR; split <;> simp
  rw [if_neg h9]
  by_cases h10 : o.kind = 10
  · rw [if_pos h10]; unfold chR; split <;> simp
  rw [if_neg h10]
  by_cases h11 : o.kind = 11
  · rw [if_pos h11]; simp
  rw [if_neg h11]
  by_cases h12 : o.kind = 12
  · rw [if_pos h12]; simp
  rw [if_neg h12]
  by_cases h13 : o.kind = 13
  · rw [if_pos h13]; simp
  rw [if_neg h13]
  by_cases h14 : o.kind = 14
  · rw [if_pos h14]; simp
  rw [if_neg h14]
  simp
theorem fm_start {X0 : Im} {mb : Nat} (h1 : ldX X0 X) (h2 : Blt X w fb mb wr) (ht : totE X0.l ≤ t0) : FmX w t0 fb 0 X wr := by
  obtain ⟨L, k1, k2, k3⟩ := h2
  exact ⟨mb, none, L, [], k1, k2, k3, h1.1, Nat.le_trans h1.2 ht, Nat.le_refl _⟩
theorem fm_calls (h : FmX w t0 fb I X wr) (hb : t0 + I ≤ 1000000) (ho : OqR o wr) : Calls Tryz.prog 12 #[.pointer (some ⟨fb, 0, none⟩), .agg (opC o)] wr fun e w1 => ∃ a b, e = .returned (.tuple #[.int .i64 a, .int .i64 b]) ∧ Hid (a = (opR X o).n ∧ b = (opR X o).e ∧ FmX w t0 fb (I + 1) (opR X o).X w1) := by
  obtain ⟨mb, ot, L, T, k1, k2, k3, k4, k5, k6⟩ := h
  refine Calls.mono (calls_any ⟨k4, by omega, k1, by omega, ho.ok, ho.bn, ho.bsl⟩) (fun e w1 hh => ?_)
  obtain ⟨e1, ot', L', m1, m2, m3⟩ := hh
  have := k2.size
  have hg := opR_good k4 o
  have ha := acts_one X o
  refine ⟨_, _, e1, rfl, rfl, mb, ot', L', _, m1, k2.then m2 (fun k hk => .inr (k3 k hk)), fun k hk => ?_, hg.1, by omega, by simp only [List.length_append]; omega⟩
  rcases m3 k hk with h | h
  · exact k3 k h
  · omega
/-- The same, with its image. -/
def FmJ (w : World) (t0 fb I : Nat) (X : Im) (a : Option Addr) (n c : Nat) (wr : World) : Prop := FmX w t0 fb I X wr ∧ ∃ l, ImR (.slice a n c) l wr ∧ l.map Nq.x = X.l ∧ l.length = n
theorem FmJ.nw {a : Option Addr} {n c : Nat} (h : FmJ w t0 fb I X a n c wr) (f : Nw wr w') : FmJ w t0 fb I X a n c w' := by
  obtain ⟨h1, l, h2, h3, h4⟩ := h
  exact ⟨h1.nw f, l, h2.nw f, h3, h4⟩
theorem fm_image (h : FmX w t0 fb I X wr) (hb : t0 + I ≤ 1000000) : Calls Tryz.prog 13 #[.pointer (some ⟨fb, 0, none⟩)] wr fun e w1 => ∃ a n c, e = .returned (imV X (.slice a n c)) ∧ Hid (FmJ w t0 fb I X a n c w1) := by
  have h0 := h
  obtain ⟨mb, ot, L, T, k1, k2, k3, k4, k5, k6⟩ := h
  refine Calls.mono (image_X k4 (by omega) k1) (fun e w1 hh => ?_)
  obtain ⟨a, n, c, l, e1, e2, e3, e4⟩ := hh
  exact ⟨a, n, c, e1, h0.nw e2.1, l, e2.r, e3, e4⟩
theorem FmJ.len {a : Option Addr} {n c : Nat} (h : FmJ w t0 fb I X a n c wr) : n = X.l.length := by
  obtain ⟨h1, l, h2, h3, h4⟩ := h
  rw [← h4, ← h3, List.length_map]
theorem FmX.wf (h : FmX w t0 fb I X wr) : WF X := by obtain ⟨mb, ot, L, T, k1, k2, k3, k4, k5, k6⟩ := h; exact k4
theorem wf_ndw (hX : WF X) (ht : totE X.l ≤ 1000000) {x : Nd} (hx : x ∈ X.l) : NdW x := by
  have h1 := hX.kinds x hx
  have h2 := hX.nums x hx
  have h3 := hX.x2
  have h4 := Nat.le_trans (sumF_mem (fun x => x.ents.length) hx) ht
  refine ⟨by have := h1.tlen; omega, fun e he => ?_, fun e he => ?_, i64_of (by omega) (by omega), ?_, by have := h1.len; omega, by omega⟩
  · exact ((wf_ents hX hx).ent e he).1
  · obtain ⟨_, _, y, hy, hyn⟩ := hX.es x hx e he
    have := hX.nums y hy
    exact i64_of (by omega) (by omega)
  · rcases h1.2 with h | h | h <;> rw [h.1] <;> unfold I64 <;> omega
theorem fm_valid {a : Option Addr} {n c : Nat} (h : FmJ w t0 fb I X a n c wr) (hb : t0 + I ≤ 1000000) : Calls Tryz.prog 32 #[imV X (.slice a n c)] wr fun e w1 => e = .returned (.bool true) ∧ Hid (Nw wr w1) := by
  obtain ⟨⟨mb, ot, L, T, k1, k2, k3, k4, k5, k6⟩, l, h2, h3, h4⟩ := h
  refine Calls.mono (valid_any X l a n c h3 h4.symm h2 (fun y hy => wf_ndw k4 (by omega) (by rw [← h3]; exact List.mem_map_of_mem hy))) (fun e w1 hh => ?_)
  obtain ⟨B, rfl, hB, hN⟩ := hh
  rw [hB.2 k4]
  exact ⟨rfl, hN⟩
theorem fm_at {a : Option Addr} {n c : Nat} (h : FmJ w t0 fb I X a n c wr) (J : Nat) (hJ : J < n) : ∃ g o y, a = some ⟨g, o, none⟩ ∧ X.l[J]? = some y.x ∧ y.d.n = y.x.data.length ∧ NqC g (o + J * 10) y wr ∧ y.d.n ≤ y.d.c ∧ y.d.c < 9223372036854775808 := by
  obtain ⟨h1, l, h2, h3, h4⟩ := h
  have hl : J < l.length := by omega
  obtain ⟨g, o, e, hc⟩ := h2.at J hl
  have hd := (h2.2 _ (List.getElem_mem hl)).dn
  exact ⟨g, o, l[J], e, by rw [← h3, List.getElem?_map, List.getElem?_eq_getElem hl]; rfl, hd.1, hc, hd.2.2, hd.2.1⟩
theorem held_le (X : Im) (J : Nat) : heldF (X.l.take J) ≤ heldF X.l := by
  conv => rhs; rw [← List.take_append_drop J X.l]
  rw [heldF_sum, heldF_sum, sumF_append]
  omega
end Go.Proofs.YtcogkhcfpgelhabGreat

namespace Go.Proofs.YtcogkhcfpgelhabGreat
open Go.RowKit
set_option linter.unusedVariables false
set_option maxRecDepth 100000
variable {w w' V : World}
/-! ### The document's SameNode and Same, of what is the same -/
theorem neq_meta (a b c d e : Int) (w : World) : (binOp BinOp.neq 37 (.agg #[.int .u32 a, .int .u32 b, .int .u32 c, .int .i64 d, .int .i32 e]) (.agg #[.int .u32 a, .int .u32 b, .int .u32 c, .int .i64 d, .int .i32 e])).run Tryz.prog w = .ok (.bool false) w := by
  have u2 := Tryz.underlying2
  have u32 := Tryz.underlying35
  have i32 := Tryz.underlying21
  have hS : Tryz.prog.underlying 37 = some (.struct (Tryz.prog.fieldsOf 37)) := by kernel_rfl
  have he : (Op.equalIn 10000 37 (.agg #[.int .u32 a, .int .u32 b, .int .u32 c, .int .i64 d, .int .i32 e]) (.agg #[.int .u32 a, .int .u32 b, .int .u32 c, .int .i64 d, .int .i32 e])).run Tryz.prog w = .ok true w := by
    rw [show (10000 : Nat) = 9999 + 1 from rfl, run_equalIn_agg w 9999 37 _ _ hS (by kernel_rfl)]
    simp only [Program.fieldsOf, Tryz.underlying37]
    go_simp
  have he' : (Op.equalIn Op.maxDepth 37 (.agg #[.int .u32 a, .int .u32 b, .int .u32 c, .int .i64 d, .int .i32 e]) (.agg #[.int .u32 a, .int .u32 b, .int .u32 c, .int .i64 d, .int .i32 e])).run Tryz.prog w = .ok true w := he
  simp [binOp, Op.equal, he']
theorem neq_named (s : ByteArray) (b : Int) (w : World) : (binOp BinOp.neq 57 (.agg #[.string s, .int .i64 b]) (.agg #[.string s, .int .i64 b])).run Tryz.prog w = .ok (.bool false) w := by
  have u3 := Tryz.underlying3
  have u9 := Tryz.underlying9
  have hS : Tryz.prog.underlying 57 = some (.struct (Tryz.prog.fieldsOf 57)) := by kernel_rfl
  have he : (Op.equalIn 10000 57 (.agg #[.string s, .int .i64 b]) (.agg #[.string s, .int .i64 b])).run Tryz.prog w = .ok true w := by
    rw [show (10000 : Nat) = 9999 + 1 from rfl, run_equalIn_agg w 9999 57 _ _ hS (by kernel_rfl)]
    simp only [Program.fieldsOf, Tryz.underlying57]
    go_simp
  have he' : (Op.equalIn Op.maxDepth 57 (.agg #[.string s, .int .i64 b]) (.agg #[.string s, .int .i64 b])).run Tryz.prog w = .ok true w := he
  simp [binOp, Op.equal, he']
set_option maxHeartbeats 8000000 in
theorem sameNode_any (x : Nd) (d1 e1 d2 e2 : S3) (h1 : NqR ⟨x, d1, e1⟩ w) (h2 : NqR ⟨x, d2, e2⟩ w) (hel : x.ents.length ≤ 1000000000000) : Calls Tryz.prog 42 #[.agg (nqC ⟨x, d1, e1⟩), .agg (nqC ⟨x, d2, e2⟩)] w fun e w' => e = .returned (.bool true) ∧ Nw w w' := by
  obtain ⟨P, hP⟩ : ∃ P : Ending → World → Prop, P = fun e w' => e = .returned (.bool true) ∧ Nw w w' := ⟨_, rfl⟩
  rw [← hP]
  have HF : Hid (∀ V, Nw w V → P (.returned (.bool true)) V) := fun V hV => by rw [hP]; exact ⟨rfl, hV⟩
  obtain ⟨V, hV⟩ : ∃ V, V = (w.alloc (.cells (nqC ⟨x, d1, e1⟩) 44)).alloc (.cells (nqC ⟨x, d2, e2⟩) 44) := ⟨_, rfl⟩
  have hN1 : Nw w (w.alloc (.cells (nqC ⟨x, d1, e1⟩) 44)) := (Fr.refl _ _).alloc _
  have hN2 : Nw (w.alloc (.cells (nqC ⟨x, d1, e1⟩) 44)) V := by rw [hV]; exact (Fr.refl _ _).alloc _
  have hNV := hN1.trans hN2
  have hA : NqC w.heap.size 0 ⟨x, d1, e1⟩ V := (NqC.made w ⟨x, d1, e1⟩).nw hN2
  have hB : NqC (w.heap.size + 1) 0 ⟨x, d2, e2⟩ V := by
    have := NqC.made (w.alloc (.cells (nqC ⟨x, d1, e1⟩) 44)) ⟨x, d2, e2⟩
    rw [← hV] at this
    have e : (w.alloc (.cells (nqC ⟨x, d1, e1⟩) 44)).heap.size = w.heap.size + 1 := by simp
    rw [e] at this
    exact this
  have k1 := conv_any (h1.nw hNV).1
  have k2 := conv_any (h2.nw hNV).1
  have l1 : e1.n = x.ents.length := h1.en.1
  have l2 : e2.n = x.ents.length := h2.en.1
  have s1 := (h1.nw hNV).2
  have s2 := (h2.nw hNV).2
  obtain ⟨d1a, d1n, d1c⟩ := d1
  obtain ⟨d2a, d2n, d2c⟩ := d2
  obtain ⟨e1a, e1n, e1c⟩ := e1
  obtain ⟨e2a, e2n, e2c⟩ := e2
  simp only at l1 l2 s1 s2 k1 k2
  obtain ⟨N, hN⟩ : ∃ N, x.ents.length = N := ⟨_, rfl⟩
  rw [hN] at l1 l2 hel
  subst l1 l2
  have HN := tHid hN
  have HV := tHid hV
  have HS1 := tHid s1
  have HS2 := tHid s2
  obtain ⟨a0, a1, a2, a3, a4, a5, a6, a7, a8, a9⟩ := hA
  obtain ⟨b0, b1, b2, b3, b4, b5, b6, b7, b8, b9⟩ := hB
  simp only [Nat.zero_add] at a1 a2 a3 a4 a5 a6 a7 a8 a9 b1 b2 b3 b4 b5 b6 b7 b8 b9
  have HF : Hid (∀ U, Nw V U → P (.returned (.bool true)) U) := fun U hU => HF.out U (hNV.trans hU)
  have hnm := neq_meta x.mt.mode x.mt.uid x.mt.gid x.mt.time x.mt.nano V
  clear hP hV hN1 hN2 hNV h1 h2 s1 s2 hN
  unfold nqC at *
  go_enter Tryz.func42, Tryz.ntmps42
  go_upto_region 1 with fail
  rw [← HV.out]
  clear HV
  generalize w.heap.size = nb at *
  go_wp2_with fail
  clear hnm k1 k2 a0 a1 a2 a3 a4 a5 a6 a7 a8 b0 b1 b2 b3 b4 b5 b6 b7 b8
  go_loopg [5] e2n (fun kx i wr => ∃ I : Nat, I ≤ e2n ∧ e2n - I ≤ kx ∧ i = .int .i64 I ∧ Hid (Nw V wr))
  case atStart => exact ⟨0, by omega, by omega, rfl, Fr.refl _ _⟩
  case round =>
    obtain ⟨I, hI, hkx, rfl, HR⟩ := hrel
    have f9 : wr.cell? ⟨nb, 9, none⟩ = some (.slice e1a e2n e1c) := HR.out.cell a9
    have g9 : wr.cell? ⟨nb + 1, 9, none⟩ = some (.slice e2a e2n e2c) := HR.out.cell b9
    clear a9 b9
    by_cases hlt : I < e2n
    · have hIl : I < x.ents.length := by rw [HN.out]; exact hlt
      obtain ⟨ga, oa, rfl, _, hca⟩ := (HS1.out.nw HR.out).at I (x.ents[I]) (List.getElem?_eq_getElem hIl)
      obtain ⟨gb, ob, rfl, _, hcb⟩ := (HS2.out.nw HR.out).at I (x.ents[I]) (List.getElem?_eq_getElem hIl)
      obtain ⟨s, k, he⟩ : ∃ s k, x.ents[I] = (s, k) := ⟨_, _, rfl⟩
      rw [he] at hca hcb
      have c0 : wr.cell? ⟨ga, oa + I * 2, none⟩ = some (.string (mk s)) := hca 0 _ rfl
      have c1 : wr.cell? ⟨ga, oa + I * 2 + 1, none⟩ = some (.int .i64 k) := hca 1 _ rfl
      have c2 : wr.cell? ⟨gb, ob + I * 2, none⟩ = some (.string (mk s)) := hcb 0 _ rfl
      have c3 : wr.cell? ⟨gb, ob + I * 2 + 1, none⟩ = some (.int .i64 k) := hcb 1 _ rfl
      have HD : Hid (Nw V wr.drew) := HR.out.drew
      have hq := fun w => neq_named (mk s) k w
      have hlt2 : (I : Int) < (e2n : Int) := by omega
      have hltd := decide_eq_true hlt2
      have hltn := decide_eq_true hlt
      have zwj : IntKind.i64.wrap ((I : Int) + 1) = (I : Int) + 1 := by rw [IntKind.wrap_i64]; omega
      clear hIl hca hcb he HS1 HS2 HF HN HR
      go_upto_region 6 with fail
      go_region
      go_wp2_with fail
      go_roundg (e2n - (I + 1))
      case measure => omega
      case rel => exact ⟨I + 1, by omega, by omega, by first | rfl | (congr 1), HD⟩
    · have hlt2 : ¬ (I : Int) < (e2n : Int) := by omega
      have hltd := decide_eq_false hlt2
      have hltn := decide_eq_false hlt
      have HE := tHid (HF.out wr HR.out)
      clear HS1 HS2
      go_wp2_with fail
      exact HE.out
end Go.Proofs.YtcogkhcfpgelhabGreat

namespace Go.Proofs.YtcogkhcfpgelhabGreat
open Go.RowKit
set_option linter.unusedVariables false
set_option maxRecDepth 100000
variable {w w' V : World}
theorem im_at {a : Option Addr} {n c : Nat} {l : List Nq} {X : Im} (h : ImR (.slice a n c) l w) (hm : l.map Nq.x = X.l) (I : Nat) (hI : I < n) : ∃ g o d e x, a = some ⟨g, o, none⟩ ∧ X.l[I]? = some x ∧ NqR ⟨x, d, e⟩ w ∧ w.rangeAt g (o + I * 10) (nqC ⟨x, d, e⟩).toList := by
  have hn : n = l.length := by obtain ⟨_, _, e, _⟩ := h.1.form; injection e
  have hl : I < l.length := by omega
  obtain ⟨g, o, e, _, hc⟩ := h.1.at I l[I] (List.getElem?_eq_getElem hl)
  exact ⟨g, o, l[I].d, l[I].e, l[I].x, e, by rw [← hm, List.getElem?_map, List.getElem?_eq_getElem hl]; rfl, h.2 _ (List.getElem_mem hl), fun j u hj => hc j u (by simpa [RNq] using hj)⟩
def ldN (a : Value) : Sem Value := Instr.loadAt 44 a
theorem ldN_fold (a : Value) : Instr.loadAt 44 a = ldN a := rfl
section
attribute [local go_sem ↓] ldN_fold
set_option maxHeartbeats 8000000 in
theorem same_any (X : Im) (l1 l2 : List Nq) (a1 a2 : Option Addr) (n c1 c2 : Nat) (h1 : ImR (.slice a1 n c1) l1 w) (h2 : ImR (.slice a2 n c2) l2 w) (m1 : l1.map Nq.x = X.l) (m2 : l2.map Nq.x = X.l) (hn9 : n ≤ 1000000000) (hel : ∀ x ∈ X.l, x.ents.length ≤ 1000000000000) : Calls Tryz.prog 14 #[imV X (.slice a1 n c1), imV X (.slice a2 n c2)] w fun e w' => e = .returned (.bool true) ∧ Nw w w' := by
  obtain ⟨P, hP⟩ : ∃ P : Ending → World → Prop, P = fun e w' => e = .returned (.bool true) ∧ Nw w w' := ⟨_, rfl⟩
  rw [← hP]
  have HF0 : Hid (∀ V, Nw w V → P (.returned (.bool true)) V) := fun V hV => by rw [hP]; exact ⟨rfl, hV⟩
  obtain ⟨V, hV⟩ : ∃ V, V = (w.alloc (.cells (ciC X (.slice a1 n c1)) 24)).alloc (.cells (ciC X (.slice a2 n c2)) 24) := ⟨_, rfl⟩
  have hN1 : Nw w (w.alloc (.cells (ciC X (.slice a1 n c1)) 24)) := (Fr.refl _ _).alloc _
  have hN2 : Nw (w.alloc (.cells (ciC X (.slice a1 n c1)) 24)) V := by rw [hV]; exact (Fr.refl _ _).alloc _
  have hNV := hN1.trans hN2
  have hrA : V.heap[w.heap.size]? = some (.cells (ciC X (.slice a1 n c1)) 24) := hN2.heap (nh w _)
  have hrB : V.heap[w.heap.size + 1]? = some (.cells (ciC X (.slice a2 n c2)) 24) := by
    have := nh (w.alloc (.cells (ciC X (.slice a1 n c1)) 24)) (.cells (ciC X (.slice a2 n c2)) 24)
    have e : (w.alloc (.cells (ciC X (.slice a1 n c1)) 24)).heap.size = w.heap.size + 1 := by simp
    rw [← hV, e] at this
    exact this
  have a0 := (rc hrA 0 _ rfl).1
  have a1' := (rc hrA 1 _ rfl).1
  have a2' := (rc hrA 2 _ rfl).1
  have a3 := (rc hrA 3 _ rfl).1
  have b0 := (rc hrB 0 _ rfl).1
  have b1 := (rc hrB 1 _ rfl).1
  have b2 := (rc hrB 2 _ rfl).1
  have b3 := (rc hrB 3 _ rfl).1
  have HF : Hid (∀ U, Nw V U → P (.returned (.bool true)) U) := fun U hU => HF0.out U (hNV.trans hU)
  have HS1 := tHid (h1.nw hNV)
  have HS2 := tHid (h2.nw hNV)
  have HM1 := tHid m1
  have HM2 := tHid m2
  have HEL := tHid hel
  have HV := tHid hV
  clear hP HF0 hV hN1 hN2 hNV hrA hrB h1 h2 m1 m2 hel
  go_enter Tryz.func14, Tryz.ntmps14
  go_upto_region 1 with fail
  rw [← HV.out]
  clear HV
  generalize w.heap.size = nb at *
  go_wp2_with fail
  clear a0 a1' a2' b0 b1 b2
  go_loopg [5] n (fun kx i wr => ∃ I : Nat, I ≤ n ∧ n - I ≤ kx ∧ i = .int .i64 I ∧ Hid (Nw V wr))
  case atStart => exact ⟨0, by omega, by omega, rfl, Fr.refl _ _⟩
  case round =>
    obtain ⟨I, hI, hkx, rfl, HR⟩ := hrel
    have f3 : wr.cell? ⟨nb, 3, none⟩ = some (.slice a1 n c1) := HR.out.cell a3
    have g3 : wr.cell? ⟨nb + 1, 3, none⟩ = some (.slice a2 n c2) := HR.out.cell b3
    clear a3 b3
    by_cases hlt : I < n
    · obtain ⟨ga, oa, d1, e1, x, rfl, hx1, hq1, hr1⟩ := im_at (HS1.out.nw HR.out) HM1.out I hlt
      obtain ⟨gb, ob, d2, e2, x2, rfl, hx2, hq2, hr2⟩ := im_at (HS2.out.nw HR.out) HM2.out I hlt
      obtain rfl : x = x2 := by rw [hx1] at hx2; injection hx2
      have hxe := HEL.out x (List.mem_of_getElem? hx1)
      obtain ⟨C1, hC1⟩ : ∃ C1 : List Value, C1 = (nqC ⟨x, d1, e1⟩).toList := ⟨_, rfl⟩
      obtain ⟨C2, hC2⟩ : ∃ C2 : List Value, C2 = (nqC ⟨x, d2, e2⟩).toList := ⟨_, rfl⟩
      have HC : Hid (∀ U, Nw wr U → Calls Tryz.prog 42 #[.agg C1.toArray, .agg C2.toArray] U fun e w' => e = .returned (.bool true) ∧ Hid (Nw wr w')) := fun U hU => by
        have e1' : C1.toArray = nqC ⟨x, d1, e1⟩ := by rw [hC1]
        have e2' : C2.toArray = nqC ⟨x, d2, e2⟩ := by rw [hC2]
        rw [e1', e2']
        refine Calls.mono (sameNode_any x d1 e1 d2 e2 (hq1.nw hU) (hq2.nw hU) hxe) ?_
        rintro e w' ⟨rfl, h⟩
        exact ⟨rfl, hU.trans h⟩
      have z1 : (Tryz.prog.info? 44).map (·.size) = some C1.length := by rw [hC1]; kernel_rfl
      have z2 : (Tryz.prog.info? 44).map (·.size) = some C2.length := by rw [hC2]; kernel_rfl
      rw [← hC1] at hr1
      rw [← hC2] at hr2
      have L1 : ∀ U, (Nw wr U) → (ldN (.pointer (some ⟨ga, oa + I * 10, none⟩))).run Tryz.prog U = .ok (.agg C1.toArray) U := fun U hU => run_loadAt_mid U ga (oa + I * 10) 44 C1 _ (fun j v hv => hU.cell (hr1 j v hv)) Tryz.underlying44 rfl z1
      have L2 : ∀ U, (Nw wr U) → (ldN (.pointer (some ⟨gb, ob + I * 10, none⟩))).run Tryz.prog U = .ok (.agg C2.toArray) U := fun U hU => run_loadAt_mid U gb (ob + I * 10) 44 C2 _ (fun j v hv => hU.cell (hr2 j v hv)) Tryz.underlying44 rfl z2
      have K1 : ∀ U, (Nw wr U) → U.cell? ⟨nb, 3, none⟩ = some (.slice (some ⟨ga, oa, none⟩) n c1) := fun U hU => hU.cell f3
      have K2 : ∀ U, (Nw wr U) → U.cell? ⟨nb + 1, 3, none⟩ = some (.slice (some ⟨gb, ob, none⟩) n c2) := fun U hU => hU.cell g3
      have hlt2 : (I : Int) < (n : Int) := by omega
      have hltd := decide_eq_true hlt2
      have hltn := decide_eq_true hlt
      have zwj : IntKind.i64.wrap ((I : Int) + 1) = (I : Int) + 1 := by rw [IntKind.wrap_i64]; omega
      have HR2 : Hid (∀ U, Nw wr U → Nw V U) := fun U hU => HR.out.trans hU
      clear hx1 hx2 hq1 hq2 hr1 hr2 hxe hC1 hC2 z1 z2 HS1 HS2 HM1 HM2 HEL HF HR
      go_upto_region 6 with fail
      go_region_held3 (fun U => Nw wr U)
        (first | exact Fr.refl _ _ | exact (Fr.refl _ _).drew | exact H5.out)
        (first | (go_at_call 42; with_reducible refine (HC.out _ ?_).mono ?_; (first | exact Fr.refl _ _ | exact (Fr.refl _ _).drew); rintro e w5 ⟨rfl, H5⟩))
      go_wp2_with fail
      go_roundg (n - (I + 1))
      case measure => omega
      case rel => exact ⟨I + 1, by omega, by omega, by first | rfl | (congr 1), HR2.out _ H5.out⟩
    · have hlt2 : ¬ (I : Int) < (n : Int) := by omega
      have hltd := decide_eq_false hlt2
      have hltn := decide_eq_false hlt
      have HE := tHid (HF.out wr HR.out)
      clear HS1 HS2 HM1 HM2 HEL
      go_wp2_with fail
      exact HE.out
end
end Go.Proofs.YtcogkhcfpgelhabGreat

namespace Go.Proofs.YtcogkhcfpgelhabGreat
open Go.RowKit
set_option linter.unusedVariables false
set_option maxRecDepth 100000
variable {D w w' wr w1 V W : World} {X : Im} {o : Oq} {t0 fb I : Nat} {B C : Nat → Prop}
/-! ### File systems beside each other -/
/-- A file system in the blocks B, made since D. -/
def Fq (D : World) (B : Nat → Prop) (t0 fb I : Nat) (X : Im) (T : List Ac) (wr : World) : Prop := ∃ mb ot L, FsH fb mb ot L (hOf X) (qOf X.l) X.l.length T wr ∧ (∀ k, Bk fb mb ot L (qOf X.l) k → B k) ∧ Nw D wr ∧ (∀ k, B k → D.heap.size ≤ k ∧ k < wr.heap.size) ∧ WF X ∧ totE X.l ≤ t0 + I ∧ T.length ≤ I
variable {T : List Ac}
theorem Fq.nw (h : Fq D B t0 fb I X T wr) (f : Nw wr w') : Fq D B t0 fb I X T w' := by
  obtain ⟨mb, ot, L, h1, h2, h3, h4, h5⟩ := h
  have := f.size
  exact ⟨mb, ot, L, h1.nw f, h2, h3.trans f, fun k hk => ⟨(h4 k hk).1, by have := (h4 k hk).2; omega⟩, h5⟩
theorem Fq.n (h : Fq D B t0 fb I X T wr) : Nw D wr := by obtain ⟨mb, ot, L, h1, h2, h3, h4, h5⟩ := h; exact h3
theorem Fq.wf (h : Fq D B t0 fb I X T wr) : WF X := by obtain ⟨mb, ot, L, h1, h2, h3, h4, h5, _⟩ := h; exact h5
theorem Fq.tot (h : Fq D B t0 fb I X T wr) : totE X.l ≤ t0 + I := by obtain ⟨mb, ot, L, h1, h2, h3, h4, h5, h6, _⟩ := h; exact h6
theorem Fq.x (h : Fq D B t0 fb I X T wr) : FmX D t0 fb I X wr := by
  obtain ⟨mb, ot, L, h1, h2, h3, h4, h5⟩ := h
  exact ⟨mb, ot, L, T, h1, h3, fun k hk => (h4 k (h2 k hk)).1, h5⟩
/-- Another one's call leaves it. -/
theorem Fq.kept (h : Fq D B t0 fb I X T wr) (f : Fr C wr w') (hd : ∀ k, C k → ¬ B k) (hC : ∀ k, C k → D.heap.size ≤ k) : Fq D B t0 fb I X T w' := by
  obtain ⟨mb, ot, L, h1, h2, h3, h4, h5⟩ := h
  have := f.size
  exact ⟨mb, ot, L, h1.kept f (fun k hk hb => hd k hk (h2 k hb)), h2, h3.then f (fun k hk => .inr (hC k hk)), fun k hk => ⟨(h4 k hk).1, by have := (h4 k hk).2; omega⟩, h5⟩
/-- What a file system may have behind a call. -/
def Gr (B : Nat → Prop) (wr w1 : World) : Nat → Prop := fun k => B k ∨ wr.heap.size ≤ k ∧ k < w1.heap.size
theorem Gr.apart (hC : ∀ k, C k → k < wr.heap.size) (hd : ∀ k, B k → ¬ C k) : ∀ k, Gr B wr w1 k → ¬ C k := fun k hk hc => by
  rcases hk with h | h
  · exact hd k h hc
  · have := hC k hc; omega
theorem fq_calls (h : Fq D B t0 fb I X T wr) (hb : t0 + I ≤ 1000000) (ho : OqR o wr) : Calls Tryz.prog 12 #[.pointer (some ⟨fb, 0, none⟩), .agg (opC o)] wr fun e w1 => ∃ a b, e = .returned (.tuple #[.int .i64 a, .int .i64 b]) ∧ Hid (a = (opR X o).n ∧ b = (opR X o).e ∧ Fq D (Gr B wr w1) t0 fb (I + 1) (opR X o).X (T ++ (opR X o).acts) w1 ∧ Fr B wr w1) := by
  obtain ⟨mb, ot, L, k1, k2, k3, k4, k5, k6, k7⟩ := h
  refine Calls.mono (calls_any ⟨k5, by omega, k1, by omega, ho.ok, ho.bn, ho.bsl⟩) (fun e w1 hh => ?_)
  obtain ⟨e1, ot', L', m1, m2, m3⟩ := hh
  have s1 := k3.size
  have s2 := m2.size
  have hg := opR_good k5 o
  have ha := acts_one X o
  refine ⟨_, _, e1, rfl, rfl, ⟨mb, ot', L', m1, fun k hk => ?_, k3.then m2 (fun k hk => .inr (k4 k (k2 k hk)).1), fun k hk => ?_, hg.1, by omega, by simp only [List.length_append]; omega⟩, m2.mono (fun k hk => .inl (k2 k hk))⟩
  · rcases m3 k hk with h | h
    · exact .inl (k2 k h)
    · exact .inr ⟨h, m1.lt k hk⟩
  · rcases hk with h | h
    · have := k4 k h; exact ⟨this.1, by omega⟩
    · exact ⟨by omega, h.2⟩
theorem fq_made {mb : Nat} (h : Blt X wr fb mb w1) (hD : Nw D wr) (hX : WF X) (ht : totE X.l ≤ t0) : Fq D (fun k => wr.heap.size ≤ k ∧ k < w1.heap.size) t0 fb 0 X [] w1 := by
  obtain ⟨L, k1, k2, k3⟩ := h
  have := hD.size
  exact ⟨mb, none, L, k1, fun k hk => ⟨k3 k hk, k1.lt k hk⟩, hD.trans k2, fun k hk => ⟨by omega, hk.2⟩, hX, ht, Nat.le_refl _⟩
/-- Image, of one of them. -/
theorem fq_image (h : Fq D B t0 fb I X T wr) (hb : t0 + I ≤ 1000000) : Calls Tryz.prog 13 #[.pointer (some ⟨fb, 0, none⟩)] wr (CpO wr X) := by
  obtain ⟨mb, ot, L, k1, k2, k3, k4, k5, k6, k7⟩ := h
  exact image_X k5 (by omega) k1
/-- Clone. -/
def ClO (D : World) (X : Im) (wr : World) (e : Ending) (w1 : World) : Prop := ∃ fb, e = .returned (.pointer (some ⟨fb, 0, none⟩)) ∧ Fq D (fun k => wr.heap.size ≤ k ∧ k < w1.heap.size) (totE X.l) fb 0 X [] w1 ∧ Nw wr w1
theorem Fq.wider {B' : Nat → Prop} (h : Fq D B t0 fb I X T wr) (hB : ∀ k, B k → B' k) (hB' : ∀ k, B' k → D.heap.size ≤ k ∧ k < wr.heap.size) : Fq D B' t0 fb I X T wr := by
  obtain ⟨mb, ot, L, k1, k2, k3, k4, k5⟩ := h
  exact ⟨mb, ot, L, k1, fun k hk => hB k (k2 k hk), k3, hB', k5⟩
set_option maxHeartbeats 4000000 in
theorem clone_any (h : Fq D B t0 fb I X T wr) (hb : t0 + I ≤ 1000000) : Calls Tryz.prog 17 #[.pointer (some ⟨fb, 0, none⟩)] wr (ClO D X wr) := by
  obtain ⟨P, hP⟩ : ∃ P : Ending → World → Prop, P = ClO D X wr := ⟨_, rfl⟩
  rw [← hP]
  have ht := h.tot
  have HI : Hid (Calls Tryz.prog 13 #[.pointer (some ⟨fb, 0, none⟩)] wr fun e w1 => ∃ a n c, e = .returned (imV X (.slice a n c)) ∧ Hid (Calls Tryz.prog 33 #[imV X (.slice a n c)] w1 fun e w2 => ∃ fc, e = .returned (.pointer (some ⟨fc, 0, none⟩)) ∧ Hid (P (.returned (.pointer (some ⟨fc, 0, none⟩))) w2))) := by
    refine Calls.mono (fq_image h hb) (fun e w1 hh => ?_)
    obtain ⟨a, n, c, l, e1, e2, e3, e4⟩ := hh
    refine ⟨a, n, c, e1, ?_⟩
    refine Calls.mono (build_any X h.wf l a n c e3 e4.symm e2.r (fun y hy => wf_ndw h.wf (by omega) (by rw [← e3]; exact List.mem_map_of_mem hy))) (fun e w2 hh => ?_)
    obtain ⟨fc, mb, rfl, hB⟩ := hh
    refine ⟨fc, rfl, ?_⟩
    show P _ _
    rw [hP]
    have n1 : Nw wr w1 := e2.1
    have hD := h.n.trans n1
    have s1 := n1.size
    have s2 := h.n.size
    have n2 : Nw w1 w2 := by obtain ⟨_, _, q, _⟩ := hB; exact q
    exact ⟨fc, rfl, (fq_made hB hD h.wf (Nat.le_refl _)).wider (fun k hk => ⟨by omega, hk.2⟩) (fun k hk => ⟨by omega, hk.2⟩), n1.trans n2⟩
  clear hP h ht hb
  go_enter Tryz.func17, Tryz.ntmps17
  go_wp2_with (first
    | (go_at_call 13; with_reducible refine HI.out.mono ?_; rintro e w1 ⟨a1, n1, c1, rfl, H1⟩)
    | (go_at_call 33; with_reducible refine H1.out.mono ?_; rintro e w2 ⟨fc, rfl, H2⟩))
  exact H2.out
end Go.Proofs.YtcogkhcfpgelhabGreat

namespace Go.Proofs.YtcogkhcfpgelhabGreat
open Go.RowKit
set_option linter.unusedVariables false
set_option maxRecDepth 100000
variable {D w w' wr w1 V W : World} {X : Im} {o : Oq} {t0 fb I : Nat} {B C M : Nat → Prop}
/-! ### An image in blocks of its own -/
def NqM (M : Nat → Prop) (y : Nq) (w : World) : Prop := Sl (fun k => ¬ M k) (.slice y.d.a y.d.n y.d.c) y.x.data w ∧ SlR RNm (fun k => ¬ M k) (.slice y.e.a y.e.n y.e.c) y.x.ents w
def ImM (M : Nat → Prop) (X : Im) (a : Option Addr) (n c : Nat) (w : World) : Prop := ∃ l, SlR RNq (fun k => ¬ M k) (.slice a n c) l w ∧ (∀ y ∈ l, NqM M y w) ∧ l.map Nq.x = X.l ∧ l.length = n
theorem ImM.kept {a : Option Addr} {n c : Nat} (h : ImM M X a n c w) (f : Fr C w w') (hd : ∀ k, C k → ¬ M k) : ImM M X a n c w' := by
  obtain ⟨l, h1, h2, h3⟩ := h
  exact ⟨l, h1.kept f hd, fun y hy => ⟨(h2 y hy).1.kept f hd, (h2 y hy).2.kept f hd⟩, h3⟩
theorem ImM.nw {a : Option Addr} {n c : Nat} (h : ImM M X a n c w) (f : Nw w w') : ImM M X a n c w' := h.kept f (fun _ h => h.elim)
theorem ImM.r {a : Option Addr} {n c : Nat} (h : ImM M X a n c w) : ∃ l, ImR (.slice a n c) l w ∧ l.map Nq.x = X.l ∧ l.length = n := by
  obtain ⟨l, h1, h2, h3⟩ := h
  exact ⟨l, ⟨h1.mono (fun _ h => h.elim), fun y hy => ⟨(h2 y hy).1.mono (fun _ h => h.elim), (h2 y hy).2.mono (fun _ h => h.elim)⟩⟩, h3⟩
theorem ogb_lt {od : Option Nat} {v : Value} {l : List By} {g : Nat} (h : OgB od v l w) (e : od = some g) : g < w.heap.size := by subst e; exact Ow.lt h
theorem ogr_lt {α : Type} {R : RT α} {og : Option Nat} {v : Value} {l : List α} {g : Nat} (h : OgR R og v l w) (e : og = some g) : g < w.heap.size := by
  subst e
  obtain ⟨xs, _, _, _, _, h5⟩ := h
  exact h5.lt
theorem cpo_m {e : Ending} (h : CpO wr X e w1) : ∃ a n c, e = .returned (imV X (.slice a n c)) ∧ ImM (fun k => wr.heap.size ≤ k ∧ k < w1.heap.size) X a n c w1 ∧ Nw wr w1 := by
  obtain ⟨a, n, c, l, e1, ⟨e2, ⟨og, e5, e6⟩, e7⟩, e3, e4⟩ := h
  refine ⟨a, n, c, e1, ⟨l, (e5.slr rnqOk).mono (fun k hk e => hk ⟨e6 k e, ogr_lt e5 e⟩), fun y hy => ?_, e3, e4⟩, e2⟩
  obtain ⟨⟨od, p1, p2⟩, oe, p3, p4⟩ := e7 y hy
  exact ⟨p1.sl.mono (fun k hk e => hk ⟨p2 k e, ogb_lt p1 e⟩), (p3.slr rnmOk).mono (fun k hk e => hk ⟨p4 k e, ogr_lt p3 e⟩)⟩
/-- Two images of one X are the same. -/
theorem same_m {M' : Nat → Prop} {a a' : Option Addr} {n n' c c' : Nat} (hX : WF X) (ht : totE X.l ≤ 1000000) (h1 : ImM M X a n c w) (h2 : ImM M' X a' n' c' w) : Calls Tryz.prog 14 #[imV X (.slice a n c), imV X (.slice a' n' c')] w fun e w' => e = .returned (.bool true) ∧ Nw w w' := by
  obtain ⟨l1, p1, p2, p3⟩ := h1.r
  obtain ⟨l2, q1, q2, q3⟩ := h2.r
  have e : n = n' := by rw [← p3, ← q3]; have := congrArg List.length (p2.trans q2.symm); simpa using this
  subst e
  have hl : n = X.l.length := by rw [← p3, ← p2, List.length_map]
  exact same_any X l1 l2 a a' n c c' p1 q1 p2 q2 (by have := wf_cnt hX; omega) (fun x hx => by have := Nat.le_trans (sumF_mem (fun x => x.ents.length) hx) ht; omega)
/-! ### Four file systems -/
structure FsR where
  fb : Nat
  X : Im
  J : Nat
def G4 (D : World) (t0 : Nat) (M : Nat → Prop) (a b c d : FsR) (wr : World) : Prop := ∃ A B C E Ta Tb Tc Te, Fq D A t0 a.fb a.J a.X Ta wr ∧ Fq D B t0 b.fb b.J b.X Tb wr ∧ Fq D C t0 c.fb c.J c.X Tc wr ∧ Fq D E t0 d.fb d.J d.X Te wr ∧
  (∀ k, A k → ¬ B k) ∧ (∀ k, A k → ¬ C k) ∧ (∀ k, A k → ¬ E k) ∧ (∀ k, B k → ¬ C k) ∧ (∀ k, B k → ¬ E k) ∧ (∀ k, C k → ¬ E k) ∧ (∀ k, M k → k < wr.heap.size ∧ ¬ A k ∧ ¬ B k ∧ ¬ C k ∧ ¬ E k)
variable {a b c d : FsR}
theorem G4.nw (h : G4 D t0 M a b c d wr) (f : Nw wr w') : G4 D t0 M a b c d w' := by
  obtain ⟨A, B, C, E, Ta, Tb, Tc, Te, h1, h2, h3, h4, h5, h6, h7, h8, h9, h10, h11⟩ := h
  have := f.size
  exact ⟨A, B, C, E, Ta, Tb, Tc, Te, h1.nw f, h2.nw f, h3.nw f, h4.nw f, h5, h6, h7, h8, h9, h10, fun k hk => ⟨by have := (h11 k hk).1; omega, (h11 k hk).2⟩⟩
theorem G4.swap (h : G4 D t0 M a b c d wr) : G4 D t0 M b a c d wr := by
  obtain ⟨A, B, C, E, Ta, Tb, Tc, Te, h1, h2, h3, h4, h5, h6, h7, h8, h9, h10, h11⟩ := h
  exact ⟨B, A, C, E, Tb, Ta, Tc, Te, h2, h1, h3, h4, fun k hb ha => h5 k ha hb, h8, h9, h6, h7, h10, fun k hk => ⟨(h11 k hk).1, (h11 k hk).2.2.1, (h11 k hk).2.1, (h11 k hk).2.2.2⟩⟩
theorem G4.swap2 (h : G4 D t0 M a b c d wr) : G4 D t0 M a c b d wr := by
  obtain ⟨A, B, C, E, Ta, Tb, Tc, Te, h1, h2, h3, h4, h5, h6, h7, h8, h9, h10, h11⟩ := h
  exact ⟨A, C, B, E, Ta, Tc, Tb, Te, h1, h3, h2, h4, h6, h5, h7, fun k hc hb => h8 k hb hc, h10, h9, fun k hk => ⟨(h11 k hk).1, (h11 k hk).2.1, (h11 k hk).2.2.2.1, (h11 k hk).2.2.1, (h11 k hk).2.2.2.2⟩⟩
theorem G4.swap3 (h : G4 D t0 M a b c d wr) : G4 D t0 M a b d c wr := by
  obtain ⟨A, B, C, E, Ta, Tb, Tc, Te, h1, h2, h3, h4, h5, h6, h7, h8, h9, h10, h11⟩ := h
  exact ⟨A, B, E, C, Ta, Tb, Te, Tc, h1, h2, h4, h3, h5, h7, h6, h9, h8, fun k he hc => h10 k hc he, fun k hk => ⟨(h11 k hk).1, (h11 k hk).2.1, (h11 k hk).2.2.1, (h11 k hk).2.2.2.2, (h11 k hk).2.2.2.1⟩⟩
theorem G4.n (h : G4 D t0 M a b c d wr) : Nw D wr := by obtain ⟨A, B, C, E, Ta, Tb, Tc, Te, h1, _⟩ := h; exact h1.n
theorem G4.wf (h : G4 D t0 M a b c d wr) : WF a.X ∧ totE a.X.l ≤ t0 + a.J := by obtain ⟨A, B, C, E, Ta, Tb, Tc, Te, h1, _⟩ := h; exact ⟨h1.wf, h1.tot⟩
/-- A call on the first one. -/
theorem g4_calls (h : G4 D t0 M a b c d wr) (hb : t0 + a.J ≤ 1000000) (ho : OqR o wr) : Calls Tryz.prog 12 #[.pointer (some ⟨a.fb, 0, none⟩), .agg (opC o)] wr fun e w1 => ∃ x y, e = .returned (.tuple #[.int .i64 x, .int .i64 y]) ∧ Hid (x = (opR a.X o).n ∧ y = (opR a.X o).e ∧ G4 D t0 M ⟨a.fb, (opR a.X o).X, a.J + 1⟩ b c d w1 ∧ Fr (fun k => ¬ M k) wr w1) := by
  obtain ⟨A, B, C, E, Ta, Tb, Tc, Te, h1, h2, h3, h4, h5, h6, h7, h8, h9, h10, h11⟩ := h
  refine Calls.mono (fq_calls h1 hb ho) (fun e w1 hh => ?_)
  obtain ⟨x, y, e1, e2⟩ := hh
  obtain ⟨ex, ey, k1, k2⟩ := e2.out
  have lt : ∀ {B' : Nat → Prop} {t fc J : Nat} {Y : Im} {U : List Ac}, Fq D B' t fc J Y U wr → ∀ k, B' k → k < wr.heap.size := fun h k hk => by
    obtain ⟨_, _, _, _, _, _, h4, _⟩ := h
    exact (h4 k hk).2
  have ge : ∀ k, A k → D.heap.size ≤ k := fun k hk => by
    obtain ⟨_, _, _, _, _, _, h4, _⟩ := h1
    exact (h4 k hk).1
  have s := k2.size
  refine ⟨x, y, e1, ex, ey, ⟨Gr A wr w1, B, C, E, _, Tb, Tc, Te, k1, h2.kept k2 h5 ge, h3.kept k2 h6 ge, h4.kept k2 h7 ge, Gr.apart (lt h2) h5, Gr.apart (lt h3) h6, Gr.apart (lt h4) h7, h8, h9, h10, fun k hk => ?_⟩, k2.mono (fun k hk => .inl (fun hm => (h11 k hm).2.1 hk))⟩
  have hm := h11 k hk
  refine ⟨by omega, fun hg => ?_, hm.2.2⟩
  rcases hg with hg | hg
  · exact hm.2.1 hg
  · omega
theorem g4_image (h : G4 D t0 M a b c d wr) (hb : t0 + a.J ≤ 1000000) : Calls Tryz.prog 13 #[.pointer (some ⟨a.fb, 0, none⟩)] wr (CpO wr a.X) := by
  obtain ⟨A, B, C, E, Ta, Tb, Tc, Te, h1, h2⟩ := h
  exact fq_image h1 hb
end Go.Proofs.YtcogkhcfpgelhabGreat

namespace Go.Proofs.YtcogkhcfpgelhabGreat
open Go.RowKit
set_option linter.unusedVariables false
set_option maxRecDepth 100000
variable {D w w' wr w1 V W : World} {X : Im} {o : Oq} {t0 fb I N : Nat} {B M : Nat → Prop}
/-! ### VfsOn -/
theorem on_load {T : List Ac} (h : Fq D B t0 fb I X T wr) (hb : t0 + I ≤ 1000000) : Calls Tryz.prog 13 #[.pointer (some ⟨fb, 0, none⟩)] wr fun e w1 => ∃ a n c, e = .returned (imV X (.slice a n c)) ∧ Hid (Calls Tryz.prog 9 #[imV X (.slice a n c)] w1 fun e w2 => ∃ fg, e = .returned (.tuple #[.pointer (some ⟨fg, 0, none⟩), .int .i64 0]) ∧ Hid (Nw wr w2 ∧ Fq D (fun k => wr.heap.size ≤ k ∧ k < w2.heap.size) t0 fg I X [] w2)) := by
  have ht := h.tot
  refine Calls.mono (fq_image h hb) (fun e w1 hh => ?_)
  obtain ⟨a, n, c, l, e1, e2, e3, e4⟩ := hh
  refine ⟨a, n, c, e1, ?_⟩
  refine Calls.mono (load_any X l a n c e3 e4.symm e2.r (fun y hy => wf_ndw h.wf (by omega) (by rw [← e3]; exact List.mem_map_of_mem hy))) (fun e w2 hh => ?_)
  rcases hh with ⟨h1, _⟩ | ⟨_, fg, mb, rfl, L, k1, k2, k3⟩
  · exact absurd h.wf h1
  · have s1 := e2.1.size
    have s2 := h.n.size
    exact ⟨fg, rfl, e2.1.trans k2, mb, none, L, k1, fun k hk => ⟨by have := k3 k hk; omega, k1.lt k hk⟩, (h.n.trans e2.1).trans k2, fun k hk => ⟨by omega, hk.2⟩, h.wf, ht, Nat.zero_le _⟩
theorem on_clone {T : List Ac} (h : Fq D B t0 fb I X T wr) (hb : t0 + I ≤ 1000000) : Calls Tryz.prog 17 #[.pointer (some ⟨fb, 0, none⟩)] wr fun e w2 => ∃ fg, e = .returned (.pointer (some ⟨fg, 0, none⟩)) ∧ Hid (Nw wr w2 ∧ Fq D (fun k => wr.heap.size ≤ k ∧ k < w2.heap.size) t0 fg I X [] w2) := by
  have ht := h.tot
  refine Calls.mono (clone_any h hb) (fun e w2 hh => ?_)
  obtain ⟨fg, e1, ⟨mb, ot, L, k1, k2, k3, k4, k5, _, _⟩, k6⟩ := hh
  exact ⟨fg, e1, k6, mb, ot, L, k1, k2, k3, k4, k5, ht, Nat.zero_le _⟩
theorem on_trace (h : Fq D B t0 fb I X [] wr) : Calls Tryz.prog 16 #[.pointer (some ⟨fb, 0, none⟩)] wr fun e w1 => ∃ a c, e = .returned (.slice a 0 c) ∧ Hid (Nw wr w1) := by
  obtain ⟨mb, ot, L, k1, _⟩ := h
  refine Calls.mono (trace_any k1 (by simp)) (fun e w1 hh => ?_)
  obtain ⟨a, c, og, e1, _, e2, _⟩ := hh
  exact ⟨a, c, e1, e2⟩
/-- The four, and the image that was. -/
theorem on_four {T : List Ac} {fg fh fk : Nat} {w2 w3 w4 w5 w6 : World} (hf : Fq D B t0 fb I X T wr) (n2 : Nw wr w2) (hg : Fq D (fun k => wr.heap.size ≤ k ∧ k < w2.heap.size) t0 fg I X [] w2) (n3 : Nw w2 w3) (hh : Fq D (fun k => w2.heap.size ≤ k ∧ k < w3.heap.size) t0 fh I X [] w3) (n4 : Nw w3 w4) (hk : Fq D (fun k => w3.heap.size ≤ k ∧ k < w4.heap.size) t0 fk I X [] w4) (n5 : Nw w4 w5) (n6 : Nw w5 w6) :
    G4 D t0 (fun k => w5.heap.size ≤ k ∧ k < w6.heap.size) ⟨fb, X, I⟩ ⟨fg, X, I⟩ ⟨fh, X, I⟩ ⟨fk, X, I⟩ w6 := by
  have n46 := n5.trans n6
  have n36 := n4.trans n46
  have n26 := n3.trans n36
  have s2 := n2.size
  have s3 := n3.size
  have s4 := n4.size
  have s5 := n5.size
  have s6 := n6.size
  have hB : ∀ k, B k → k < wr.heap.size := fun k hk => by obtain ⟨_, _, _, _, _, _, h4, _⟩ := hf; exact (h4 k hk).2
  refine ⟨B, _, _, _, T, [], [], [], hf.nw (n2.trans n26), hg.nw n26, hh.nw n36, hk.nw n46, fun k h1 h2 => ?_, fun k h1 h2 => ?_, fun k h1 h2 => ?_, fun k h1 h2 => ?_, fun k h1 h2 => ?_, fun k h1 h2 => ?_, fun k h1 => ⟨by omega, fun h2 => ?_, fun h2 => ?_, fun h2 => ?_, fun h2 => ?_⟩⟩
  · have := hB k h1; omega
  · have := hB k h1; omega
  · have := hB k h1; omega
  · omega
  · omega
  · omega
  · have := hB k h2; omega
  · omega
  · omega
  · omega
/-- How the second loop stands. -/
def On2 (D : World) (t0 N fb fg fh fk : Nat) (M : Nat → Prop) (X : Im) (ops : List Oq) (a : Option Addr) (n c nb I : Nat) (wr : World) : Prop := ∃ Y, Y = (ops.take I).foldl (fun X o => (opR X o).X) X ∧ G4 D t0 M ⟨fg, Y, N + I⟩ ⟨fh, Y, N + I⟩ ⟨fb, X, N⟩ ⟨fk, X, N⟩ wr ∧ ImM M X a n c wr ∧ M nb ∧ wr.heap[nb]? = some (.cells (ciC X (.slice a n c)) 24)
theorem g4c {b c d : FsR} {fa J : Nat} {Y : Im} {R : Rs} (h : G4 D t0 M ⟨fa, Y, J⟩ b c d wr) (hb : t0 + J ≤ 1000000) (ho : OqR o wr) (hR : opR Y o = R) : Calls Tryz.prog 12 #[.pointer (some ⟨fa, 0, none⟩), .agg (opC o)] wr fun e w1 => e = .returned (.tuple #[.int .i64 R.n, .int .i64 R.e]) ∧ Hid (G4 D t0 M ⟨fa, R.X, J + 1⟩ b c d w1 ∧ Fr (fun k => ¬ M k) wr w1) := by
  have hc := g4_calls (a := ⟨fa, Y, J⟩) h hb ho
  simp only [hR] at hc
  refine Calls.mono hc (fun e w1 hh => ?_)
  obtain ⟨x, y, e1, e2⟩ := hh
  obtain ⟨ex, ey, k1⟩ := e2.out
  exact ⟨by rw [e1, ex, ey], k1⟩
theorem on2_step {fg fh fk n c nb : Nat} {a : Option Addr} {ops : List Oq} {y : Oq} (h : On2 D t0 N fb fg fh fk M X ops a n c nb I wr) (hI : ops[I]? = some y) (hb : t0 + N + I ≤ 1000000) (ho : ∀ U, Nw D U → OqR y U) : ∃ R : Rs, Calls Tryz.prog 12 #[.pointer (some ⟨fg, 0, none⟩), .agg (opC y)] wr fun e w1 => e = .returned (.tuple #[.int .i64 R.n, .int .i64 R.e]) ∧ Hid (Nw D w1 ∧ Calls Tryz.prog 12 #[.pointer (some ⟨fh, 0, none⟩), .agg (opC y)] w1 fun e w2 => e = .returned (.tuple #[.int .i64 R.n, .int .i64 R.e]) ∧ Hid (On2 D t0 N fb fg fh fk M X ops a n c nb (I + 1) w2)) := by
  obtain ⟨Y, hY, h1, h2, h3, h4⟩ := h
  obtain ⟨R, hR⟩ : ∃ R, opR Y y = R := ⟨_, rfl⟩
  have hY' : R.X = (ops.take (I + 1)).foldl (fun X o => (opR X o).X) X := by
    rw [List.take_add_one, hI, ← hR, hY]
    simp
  clear hY
  refine ⟨R, Calls.mono (g4c h1 (by omega) (ho _ h1.n) hR) (fun e w1 hh => ?_)⟩
  obtain ⟨e1, e2⟩ := hh
  obtain ⟨k1, k2⟩ := e2.out
  refine ⟨e1, k1.n, Calls.mono (g4c k1.swap (by omega) (ho _ k1.n) hR) (fun e w2 hh => ?_)⟩
  obtain ⟨f1, f2⟩ := hh
  obtain ⟨m1, m2⟩ := f2.out
  exact ⟨f1, R.X, hY', m1.swap, (h2.kept k2 (fun k hk => hk)).kept m2 (fun k hk => hk), h3, m2.heap (k2.heap h4 (fun h => h h3)) (fun h => h h3)⟩
end Go.Proofs.YtcogkhcfpgelhabGreat

namespace Go.Proofs.YtcogkhcfpgelhabGreat
open Go.RowKit
set_option linter.unusedVariables false
set_option maxRecDepth 100000
theorem in_at {a : Option Addr} {n c : Nat} {l : List Oq} {w : World} (h : InO (.slice a n c) l w) (hn : n = l.length) (I : Nat) (hI : I < n) : ∃ g o y, a = some ⟨g, o, none⟩ ∧ l[I]? = some y ∧ (∀ U, Nw w U → OqR y U) ∧ ∃ CL : List Value, opC y = CL.toArray ∧ (∀ U, Nw w U → U.rangeAt g (o + I * 20) CL) ∧ (Tryz.prog.info? 40).map (·.size) = some CL.length := by
  have hl : I < l.length := by omega
  obtain ⟨g, o, e, hc⟩ := h.at I hl
  exact ⟨g, o, l[I], e, List.getElem?_eq_getElem hl, fun U hU => (h.nw hU).2 _ (List.getElem_mem hl), (opC l[I]).toList, rfl, fun U hU j v hv => hU.cell (hc j v (by simpa using hv)), by kernel_rfl⟩
theorem on_image {D : World} {t0 : Nat} {M : Nat → Prop} {b c d : FsR} {fa J : Nat} {Y : Im} {wr U : World} (h : G4 D t0 M ⟨fa, Y, J⟩ b c d wr) (hb : t0 + J ≤ 1000000) (hU : Nw wr U) : Calls Tryz.prog 13 #[.pointer (some ⟨fa, 0, none⟩)] U fun e w1 => ∃ a n c, e = .returned (imV Y (.slice a n c)) ∧ Hid (Nw U w1 ∧ ∃ M', ImM M' Y a n c w1) := by
  have hc := g4_image (a := ⟨fa, Y, J⟩) (h.nw hU) hb
  simp only at hc
  refine Calls.mono hc (fun e w1 hh => ?_)
  obtain ⟨a, n, c, e1, e2, e3⟩ := cpo_m hh
  exact ⟨a, n, c, e1, e3, _, e2⟩
set_option maxHeartbeats 16000000 in
theorem on_walk (w : World) (X : Im) (l : List Nq) (a : Option Addr) (n c : Nat) (hl : l.map Nq.x = X.l) (hn : n = l.length) (hm : ImR (.slice a n c) l w) (hw : ∀ y ∈ l, NdW y.x) (hn9 : n ≤ 1000000000)
    (va : Option Addr) (N vc : Nat) (ops : List Oq) (hN : N = ops.length) (ho : InO (.slice va N vc) ops w) (vb : Option Addr) (N2 vd : Nat) (ops2 : List Oq) (hN2 : N2 = ops2.length) (ho2 : InO (.slice vb N2 vd) ops2 w) (ht : totE X.l + N + N2 ≤ 1000000) :
    Calls Tryz.prog 5 #[imV X (.slice a n c), .slice va N vc, .slice vb N2 vd] w fun e w' => e = .returned (.bool true) ∧ Nw w w' := by
  obtain ⟨P, hP⟩ : ∃ P : Ending → World → Prop, P = fun e w' => e = .returned (.bool true) ∧ Nw w w' := ⟨_, rfl⟩
  rw [← hP]
  have HF : Hid (∀ V, Nw w V → P (.returned (.bool true)) V) := fun V hV => by rw [hP]; exact ⟨rfl, hV⟩
  obtain ⟨V, hV⟩ : ∃ V, V = w.alloc (.cells (ciC X (.slice a n c)) 24) := ⟨_, rfl⟩
  have hNV : Nw w V := by rw [hV]; exact (Fr.refl _ _).alloc _
  have HI : Hid (∀ U, Nw V U → U.cell? ⟨w.heap.size, 0, none⟩ = some (.int .i64 X.nodes) ∧ U.cell? ⟨w.heap.size, 1, none⟩ = some (.int .i64 X.bytes) ∧ U.cell? ⟨w.heap.size, 2, none⟩ = some (.int .i64 X.next) ∧ U.cell? ⟨w.heap.size, 3, none⟩ = some (.slice a n c)) := fun U hU => by
    have hr := hU.heap (show V.heap[w.heap.size]? = some (.cells (ciC X (.slice a n c)) 24) by rw [hV]; exact nh w _)
    exact ⟨(rc hr 0 _ rfl).1, (rc hr 1 _ rfl).1, (rc hr 2 _ rfl).1, (rc hr 3 _ rfl).1⟩
  have HLV : Hid (Calls Tryz.prog 8 #[] V fun e w' => e = .returned (.bool true) ∧ Hid (Nw V w')) := lives_any V
  have HLD : Hid (∀ U, Nw V U → Calls Tryz.prog 15 #[imV X (.slice a n c)] U fun e w' => ∃ fb, e = .returned (.pointer (some ⟨fb, 0, none⟩)) ∧ Hid (∃ X1 B T, Fq w B (totE X.l) fb 0 X1 T w')) := fun U hU => by
    have hNU := hNV.trans hU
    refine Calls.mono (loaded_any X l a n c hl hn (hm.nw hNU) hw hn9) (fun e w' hh => ?_)
    obtain ⟨fb, mb, X', rfl, h1, h2⟩ := hh
    exact ⟨fb, rfl, X', _, [], fq_made h2 hNU h1.1 h1.2⟩
  have HO := tHid ho
  have HNN := tHid hN
  have HO2 := tHid ho2
  have HNN2 := tHid hN2
  obtain ⟨t0, ht0⟩ : ∃ t0, totE X.l = t0 := ⟨_, rfl⟩
  rw [ht0] at HLD ht
  have HT := tHid ht
  have hN6 : N ≤ 1000000 := by omega
  have hN7 : N2 ≤ 1000000 := by omega
  have HV := tHid hV
  clear hV hP hl hn hm hw hn9 hNV ho hN ho2 hN2 ht0 ht
  go_enter Tryz.func5, Tryz.ntmps5
  go_upto_region 1 with fail
  rw [← HV.out]
  clear HV
  go_upto_region 3 with (first | (go_at_call 8; with_reducible refine HLV.out.mono ?_; rintro e w1 ⟨rfl, H1⟩))
  obtain ⟨c0, c1, c2, c3⟩ := HI.out w1 H1.out
  have HL1 := tHid (HLD.out w1 H1.out)
  clear HLV HI HLD H1
  go_wp2_with (first | (go_at_call 15; with_reducible refine HL1.out.mono ?_; rintro e w2 ⟨fb, rfl, H2⟩))
  clear HL1 c0 c1 c2 c3
  go_loopg [8] N (fun kx i wr => ∃ I : Nat, I ≤ N ∧ N - I ≤ kx ∧ i = .int .i64 I ∧ Hid (∃ X1 B T, Fq w B t0 fb I X1 T wr))
  case atStart => exact ⟨0, by omega, by omega, rfl, H2⟩
  case round =>
    clear H2
    obtain ⟨I, hI, hkx, rfl, HR⟩ := hrel
    by_cases hlt : I < N
    · obtain ⟨X1, B, T, hX1⟩ := HR.out
      obtain ⟨g, o, y, rfl, hy, hoy, CL, hop, hra, hsz⟩ := in_at HO.out HNN.out I hlt
      have HC : Hid (Calls Tryz.prog 12 #[.pointer (some ⟨fb, 0, none⟩), .agg (opC y)] wr fun e w1 => ∃ a b, e = .returned (.tuple #[.int .i64 a, .int .i64 b]) ∧ Hid (∃ X1 B T, Fq w B t0 fb (I + 1) X1 T w1)) := by
        refine Calls.mono (fq_calls hX1 (by have := HT.out; omega) (hoy _ hX1.n)) (fun e w1 hh => ?_)
        obtain ⟨x, z, e1, e2⟩ := hh
        exact ⟨x, z, e1, _, _, _, e2.out.2.2.1⟩
      rw [hop] at HC
      have HRA := tHid (hra _ hX1.n)
      have HSZ := tHid hsz
      have hlt2 : (I : Int) < (N : Int) := by omega
      have hltd := decide_eq_true hlt2
      have hltn := decide_eq_true hlt
      have zwj : IntKind.i64.wrap ((I : Int) + 1) = (I : Int) + 1 := by rw [IntKind.wrap_i64]; omega
      clear hX1 hy hoy hop hra hsz HR HO HO2 HF
      go_wp2_with (first | (refine wpList_load_mid rfl 40 _ rfl g (o + I * 20) (by first | rfl | simp [Act.eval]) CL _ HRA.out Tryz.underlying40 rfl HSZ.out ?_) | (go_at_call 12; with_reducible refine HC.out.mono ?_; rintro e w3 ⟨ra, rb, rfl, H3⟩))
      go_roundg (N - (I + 1))
      case measure => omega
      case rel => exact ⟨I + 1, by omega, by omega, by first | rfl | (congr 1), H3⟩
    · obtain rfl : I = N := by omega
      obtain ⟨X1, B, T, hX1⟩ := HR.out
      have hlt2 : ¬ (I : Int) < (I : Int) := by omega
      have hltd := decide_eq_false hlt2
      have hltn := decide_eq_false hlt
      have hbb : t0 + I ≤ 1000000 := by have := HT.out; omega
      have HA := tHid (on_load hX1 hbb)
      have HX1 := tHid hX1
      clear HR hX1 HO HNN
      go_upto_region 11 with (first
        | (go_at_call 13; with_reducible refine HA.out.mono ?_; rintro e w3 ⟨a3, n3, c3, rfl, H3⟩)
        | (go_at_call 9; with_reducible refine H3.out.mono ?_; rintro e w4 ⟨fg, rfl, H4⟩))
      clear HA H3
      have HB := tHid (on_clone (HX1.out.nw H4.out.1) hbb)
      go_upto_region 12 with (first | (go_at_call 17; with_reducible refine HB.out.mono ?_; rintro e w5 ⟨fh, rfl, H5⟩))
      clear HB
      have HB := tHid (on_clone ((HX1.out.nw H4.out.1).nw H5.out.1) hbb)
      go_upto_region 13 with (first | (go_at_call 17; with_reducible refine HB.out.mono ?_; rintro e w6 ⟨fk, rfl, H6⟩))
      clear HB
      have HTR := tHid (on_trace (H5.out.2.nw H6.out.1))
      go_upto_region 15 with (first | (go_at_call 16; with_reducible refine HTR.out.mono ?_; rintro e w7 ⟨a7, c7, rfl, H7⟩))
      clear HTR
      have HB : Hid (Calls Tryz.prog 13 #[.pointer (some ⟨fb, 0, none⟩)] w7 fun e w8 => ∃ a n c, e = .returned (imV X1 (.slice a n c)) ∧ Hid (ImM (fun k => w7.heap.size ≤ k ∧ k < w8.heap.size) X1 a n c w8 ∧ Nw w7 w8)) := by
        refine Calls.mono (fq_image ((((HX1.out.nw H4.out.1).nw H5.out.1).nw H6.out.1).nw H7.out) hbb) (fun e w8 hh => ?_)
        obtain ⟨a, n, c, e1, e2, e3⟩ := cpo_m hh
        exact ⟨a, n, c, e1, e2, e3⟩
      go_upto_region 16 with (first | (go_at_call 13; with_reducible refine HB.out.mono ?_; rintro e w8 ⟨a8, n8, c8, rfl, H8⟩))
      clear HB
      obtain ⟨V9, hV9⟩ : ∃ V9, w8.alloc (.cells #[.int .i64 X1.nodes, .int .i64 X1.bytes, .int .i64 X1.next, .slice a8 n8 c8] 24) = V9 := ⟨_, rfl⟩
      have hN9 : Nw w8 V9 := by rw [← hV9]; exact (Fr.refl _ _).alloc _
      have hs9 : V9.heap.size = w8.heap.size + 1 := by rw [← hV9]; simp
      obtain ⟨M, hM⟩ : ∃ M : Nat → Prop, M = fun k => w7.heap.size ≤ k ∧ k < V9.heap.size := ⟨_, rfl⟩
      have hs7 := H8.out.2.size
      have HON : Hid (On2 w t0 I fb fg fh fk M X1 ops2 a8 n8 c8 w8.heap.size 0 V9) := by
        refine ⟨X1, rfl, ?_, ?_, by rw [hM]; exact ⟨hs7, by omega⟩, by rw [← hV9]; exact nh w8 _⟩
        · have h4 := on_four HX1.out H4.out.1 H4.out.2 H5.out.1 H5.out.2 H6.out.1 H6.out.2 H7.out (H8.out.2.trans hN9)
          rw [hM]
          exact h4.swap.swap2
        · obtain ⟨lq, q1, q2, q3⟩ := H8.out.1.nw hN9
          have hmono : ∀ k, ¬ M k → ¬ (w7.heap.size ≤ k ∧ k < w8.heap.size) := fun k hk h => hk (by rw [hM]; exact ⟨h.1, by omega⟩)
          exact ⟨lq, q1.mono hmono, fun y hy => ⟨(q2 y hy).1.mono hmono, (q2 y hy).2.mono hmono⟩, q3⟩
      rw [hV9]
      generalize w8.heap.size = nb at *
      clear hV9 hN9 hs9 hM hs7 H4 H5 H6 H7 H8 HX1
      go_wp2_with fail
      go_loopg [14] N2 (fun kx i wq => ∃ J : Nat, J ≤ N2 ∧ N2 - J ≤ kx ∧ i = .int .i64 J ∧ Hid (On2 w t0 I fb fg fh fk M X1 ops2 a8 n8 c8 nb J wq))
      case atStart => exact ⟨0, by omega, by omega, rfl, HON⟩
      case round =>
        clear HON
        obtain ⟨J, hJ, hkx2, rfl, HR⟩ := hrel
        by_cases hj : J < N2
        · obtain ⟨g, o, y, rfl, hy, hoy, CL, hop, hra, hsz⟩ := in_at HO2.out HNN2.out J hj
          have hon := HR.out
          have hD : Nw w wr := by obtain ⟨_, _, q, _⟩ := hon; exact q.n
          obtain ⟨R, hC⟩ := on2_step hon hy (by have := HT.out; omega) hoy
          rw [hop] at hC
          have HC := tHid hC
          have HRA : Hid (∀ U, Nw w U → U.rangeAt g (o + J * 20) CL) := hra
          have HRA1 := tHid (hra _ hD)
          have HSZ := tHid hsz
          have hlt3 : (J : Int) < (N2 : Int) := by omega
          have hltd3 := decide_eq_true hlt3
          have hltn3 := decide_eq_true hj
          have zwj : IntKind.i64.wrap ((J : Int) + 1) = (J : Int) + 1 := by rw [IntKind.wrap_i64]; omega
          clear hon hD hC hy hoy hop hra hsz HR HO2 HF
          go_upto_region 20 with (first | (refine wpList_load_mid rfl 40 _ rfl g (o + J * 20) (by first | rfl | simp [Act.eval]) CL _ HRA1.out Tryz.underlying40 rfl HSZ.out ?_) | (go_at_call 12; with_reducible refine HC.out.mono ?_; rintro e w10 ⟨rfl, H10⟩))
          clear HC HRA1
          have HRA1 := tHid (HRA.out _ H10.out.1)
          have HC := tHid H10.out.2
          clear H10 HRA
          go_wp2_with (first | (refine wpList_load_mid rfl 40 _ rfl g (o + J * 20) (by first | rfl | simp [Act.eval]) CL _ HRA1.out Tryz.underlying40 rfl HSZ.out ?_) | (go_at_call 12; with_reducible refine HC.out.mono ?_; rintro e w11 ⟨rfl, H11⟩))
          go_roundg (N2 - (J + 1))
          case measure => omega
          case rel => exact ⟨J + 1, by omega, by omega, by first | rfl | (congr 1), H11⟩
        · obtain rfl : J = N2 := by omega
          have hlt3 : ¬ (J : Int) < (J : Int) := by omega
          have hltd3 := decide_eq_false hlt3
          have hltn3 := decide_eq_false hj
          obtain ⟨Y, hY, hG, hIm, hMn, hrow⟩ := HR.out
          have HY := tHid hY
          have HG := tHid hG
          have HIM := tHid hIm
          have HMN := tHid hMn
          have hbj : t0 + (I + J) ≤ 1000000 := by have := HT.out; omega
          have K0 : ∀ U, Nw wr U → U.cell? ⟨nb, 0, none⟩ = some (.int .i64 X1.nodes) := fun U hU => (rc (hU.heap hrow) 0 _ rfl).1
          have K1 : ∀ U, Nw wr U → U.cell? ⟨nb, 1, none⟩ = some (.int .i64 X1.bytes) := fun U hU => (rc (hU.heap hrow) 1 _ rfl).1
          have K2 : ∀ U, Nw wr U → U.cell? ⟨nb, 2, none⟩ = some (.int .i64 X1.next) := fun U hU => (rc (hU.heap hrow) 2 _ rfl).1
          have K3 : ∀ U, Nw wr U → U.cell? ⟨nb, 3, none⟩ = some (.slice a8 n8 c8) := fun U hU => (rc (hU.heap hrow) 3 _ rfl).1
          clear hY hG hIm hMn hrow HR
          have HIg : Hid (∀ U, Nw wr U → Calls Tryz.prog 13 #[.pointer (some ⟨fg, 0, none⟩)] U fun e w1 => ∃ a n c, e = .returned (imV Y (.slice a n c)) ∧ Hid (Nw wr w1 ∧ ∃ M', ImM M' Y a n c w1)) := fun U hU => by
            refine Calls.mono (on_image HG.out hbj hU) (fun e w1 hh => ?_)
            obtain ⟨a, n, c, e1, e2⟩ := hh
            exact ⟨a, n, c, e1, hU.trans e2.out.1, e2.out.2⟩
          have HIh : Hid (∀ U aG nG cG, Nw wr U → (∃ M', ImM M' Y aG nG cG U) → Calls Tryz.prog 13 #[.pointer (some ⟨fh, 0, none⟩)] U fun e w1 => ∃ a n c, e = .returned (imV Y (.slice a n c)) ∧ Hid (Nw wr w1 ∧ Calls Tryz.prog 14 #[imV Y (.slice aG nG cG), imV Y (.slice a n c)] w1 fun e w2 => e = .returned (.bool true) ∧ Hid (Nw wr w2))) := fun U aG nG cG hU ⟨M1, hg⟩ => by
            refine Calls.mono (on_image HG.out.swap hbj hU) (fun e w1 hh => ?_)
            obtain ⟨a, n, c, e1, e2⟩ := hh
            obtain ⟨e3, M2, e4⟩ := e2.out
            have hwf := HG.out.wf
            refine ⟨a, n, c, e1, hU.trans e3, Calls.mono (same_m hwf.1 (Nat.le_trans hwf.2 hbj) (hg.nw e3) e4) (fun e w2 hh => ?_)⟩
            exact ⟨hh.1, (hU.trans e3).trans hh.2⟩
          have HIk : Hid (∀ U, Nw wr U → Calls Tryz.prog 13 #[.pointer (some ⟨fk, 0, none⟩)] U fun e w1 => ∃ a n c, e = .returned (imV X1 (.slice a n c)) ∧ Hid (Nw wr w1 ∧ Calls Tryz.prog 14 #[imV X1 (.slice a n c), imV X1 (.slice a8 n8 c8)] w1 fun e w2 => e = .returned (.bool true) ∧ Hid (Nw wr w2))) := fun U hU => by
            have hG3 := HG.out.swap3.swap2.swap
            refine Calls.mono (on_image hG3 hbb hU) (fun e w1 hh => ?_)
            obtain ⟨a, n, c, e1, e2⟩ := hh
            obtain ⟨e3, M2, e4⟩ := e2.out
            have hwf := hG3.wf
            refine ⟨a, n, c, e1, hU.trans e3, Calls.mono (same_m hwf.1 (Nat.le_trans hwf.2 hbb) e4 (HIM.out.nw (hU.trans e3))) (fun e w2 hh => ?_)⟩
            exact ⟨hh.1, (hU.trans e3).trans hh.2⟩
          clear HIM HMN
          go_upto_region 23 with fail
          go_region_held3 (fun U => Nw wr U)
            (first | exact Fr.refl _ _ | exact (Fr.refl _ _).drew | exact H12.out.1 | exact H13.out.1 | exact H14.out | exact H15.out.1 | exact H16.out)
            (first
              | (go_at_call 13; with_reducible refine (HIg.out _ ?_).mono ?_; (first | exact Fr.refl _ _ | exact (Fr.refl _ _).drew); rintro e w12 ⟨a12, n12, c12, rfl, H12⟩)
              | (go_at_call 13; with_reducible refine (HIh.out _ _ _ _ H12.out.1 H12.out.2).mono ?_; rintro e w13 ⟨a13, n13, c13, rfl, H13⟩)
              | (go_at_call 14; with_reducible refine H13.out.2.mono ?_; rintro e w14 ⟨rfl, H14⟩)
              | (go_at_call 13; with_reducible refine (HIk.out _ H14.out).mono ?_; rintro e w15 ⟨a15, n15, c15, rfl, H15⟩)
              | (go_at_call 14; with_reducible refine H15.out.2.mono ?_; rintro e w16 ⟨rfl, H16⟩))
          clear HIg HIh HIk K0 K1 K2 K3 H12 H13 H14 H15
          have HON : Hid (G4 w t0 M ⟨fb, X1, I⟩ ⟨fg, Y, I + J⟩ ⟨fh, Y, I + J⟩ ⟨fk, X1, I⟩ w16) := (HG.out.nw H16.out).swap2.swap
          clear HG H16
          go_wp2_with fail
          go_loopg [19] J (fun kx i wq => ∃ K : Nat, K ≤ J ∧ J - K ≤ kx ∧ i = .int .i64 K ∧ Hid (∃ Z, Z = (ops2.take K).foldl (fun X o => (opR X o).X) X1 ∧ G4 w t0 M ⟨fb, Z, I + K⟩ ⟨fg, Y, I + J⟩ ⟨fh, Y, I + J⟩ ⟨fk, X1, I⟩ wq))
          case atStart => exact ⟨0, by omega, by omega, rfl, X1, rfl, HON.out⟩
          case round =>
            clear HON
            obtain ⟨K, hK, hkx3, rfl, HR⟩ := hrel
            by_cases hk : K < J
            · obtain ⟨g, o, y, rfl, hy, hoy, CL, hop, hra, hsz⟩ := in_at HO2.out HNN2.out K hk
              obtain ⟨Z, hZ, hG⟩ := HR.out
              have HC : Hid (Calls Tryz.prog 12 #[.pointer (some ⟨fb, 0, none⟩), .agg (opC y)] wr fun e w1 => ∃ a b, e = .returned (.tuple #[.int .i64 a, .int .i64 b]) ∧ Hid (∃ Z, Z = (ops2.take (K + 1)).foldl (fun X o => (opR X o).X) X1 ∧ G4 w t0 M ⟨fb, Z, I + (K + 1)⟩ ⟨fg, Y, I + J⟩ ⟨fh, Y, I + J⟩ ⟨fk, X1, I⟩ w1)) := by
                refine Calls.mono (g4c hG (by omega) (hoy _ hG.n) rfl) (fun e w1 hh => ?_)
                exact ⟨_, _, hh.1, _, by rw [List.take_add_one, hy, hZ]; simp, hh.2.out.1⟩
              rw [hop] at HC
              have HRA := tHid (hra _ hG.n)
              have HSZ := tHid hsz
              have hlt4 : (K : Int) < (J : Int) := by omega
              have hltd4 := decide_eq_true hlt4
              have hltn4 := decide_eq_true hk
              have zwj : IntKind.i64.wrap ((K : Int) + 1) = (K : Int) + 1 := by rw [IntKind.wrap_i64]; omega
              clear hy hoy hop hra hsz hZ hG HR HO2 HF HY
              go_wp2_with (first | (refine wpList_load_mid rfl 40 _ rfl g (o + K * 20) (by first | rfl | simp [Act.eval]) CL _ HRA.out Tryz.underlying40 rfl HSZ.out ?_) | (go_at_call 12; with_reducible refine HC.out.mono ?_; rintro e w3 ⟨ra, rb, rfl, H3⟩))
              go_roundg (J - (K + 1))
              case measure => omega
              case rel => exact ⟨K + 1, by omega, by omega, by first | rfl | (congr 1), H3⟩
            · obtain rfl : K = J := by omega
              obtain ⟨Z, hZ, hG⟩ := HR.out
              obtain rfl : Z = Y := by rw [hZ, HY.out]
              have hlt4 : ¬ (K : Int) < (K : Int) := by omega
              have hltd4 := decide_eq_false hlt4
              have hltn4 := decide_eq_false hk
              have HA : Hid (Calls Tryz.prog 13 #[.pointer (some ⟨fb, 0, none⟩)] wr fun e w1 => ∃ a n c, e = .returned (imV Z (.slice a n c)) ∧ Hid (Calls Tryz.prog 13 #[.pointer (some ⟨fg, 0, none⟩)] w1 fun e w2 => ∃ a' n' c', e = .returned (imV Z (.slice a' n' c')) ∧ Hid (Calls Tryz.prog 14 #[imV Z (.slice a n c), imV Z (.slice a' n' c')] w2 fun e w3 => e = .returned (.bool true) ∧ Hid (P (.returned (.bool true)) w3)))) := by
                refine Calls.mono (on_image hG hbj (Fr.refl _ _)) (fun e w1 hh => ?_)
                obtain ⟨a, n, c, e1, e2⟩ := hh
                obtain ⟨e3, M2, e4⟩ := e2.out
                refine ⟨a, n, c, e1, Calls.mono (on_image hG.swap hbj e3) (fun e w2 hh => ?_)⟩
                obtain ⟨a', n', c', f1, f2⟩ := hh
                obtain ⟨f3, M3, f4⟩ := f2.out
                have hwf := hG.wf
                refine ⟨a', n', c', f1, Calls.mono (same_m hwf.1 (Nat.le_trans hwf.2 hbj) (e4.nw f3) f4) (fun e w3 hh => ?_)⟩
                exact ⟨hh.1, HF.out _ (((hG.n.trans e3).trans f3).trans hh.2)⟩
              clear hZ hG HR HO2 HF HY
              go_wp2_with (first
                | (go_at_call 13; with_reducible refine HA.out.mono ?_; rintro e w17 ⟨a17, n17, c17, rfl, H17⟩)
                | (go_at_call 13; with_reducible refine H17.out.mono ?_; rintro e w18 ⟨a18, n18, c18, rfl, H18⟩)
                | (go_at_call 14; with_reducible refine H18.out.mono ?_; rintro e w19 ⟨rfl, H19⟩))
              exact H19.out
end Go.Proofs.YtcogkhcfpgelhabGreat
