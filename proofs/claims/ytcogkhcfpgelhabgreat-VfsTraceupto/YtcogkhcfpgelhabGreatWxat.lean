import Derived.Test.YtcogkhcfpgelhabGreatWxan
import Derived.Test.YtcogkhcfpgelhabGreatWxap
import Derived.Carry
import Derived.Laws.StructEq
import Derived.BigRegion
import Derived.Deep.MidRow
import Derived.Test.YtcogkhcfpgelhabGreatVgC
namespace Go.Proofs.YtcogkhcfpgelhabGreat
open Go.RowKit
set_option linter.unusedVariables false
set_option maxRecDepth 100000
variable {w w' wr V W : World} {X : Im} {o : Oq} {t0 fb I : Nat}
/-! ### Calls that came in -/
def ROq : RT Oq := { enc := fun o => (opC o).toList, k := 20, T := 40, TS := 25, z := ⟨0, false, 0, [], 0, 0, [], [], ⟨0, 0, 0, 0, 0⟩, 0, 0, [], ⟨none, 0, 0⟩, 0, 0, 0, ⟨none, 0, 0⟩⟩, by_ := 0 }
structure OqR (o : Oq) (w : World) : Prop where
  ok : OqW o
  bn : o.bs.n = o.b.length
  bsl : Sl (fun _ => False) (.slice o.bs.a o.bs.n o.bs.c) o.b w
def InO (v : Value) (l : List Oq) (w : World) : Prop := SlR ROq (fun _ => False) v l w ∧ ∀ o ∈ l, OqR o w
theorem OqR.nw (h : OqR o w) (f : Nw w w') : OqR o w' := { h with bsl := h.bsl.nw f }
theorem InO.nw {v : Value} {l : List Oq} (h : InO v l w) (f : Nw w w') : InO v l w' := ⟨h.1.nw f, fun o ho => (h.2 o ho).nw f⟩
/-- The cells of a call that came in. -/
def OqC (g o : Nat) (x : Oq) (w : World) : Prop := ∀ j u, (opC x)[j]? = some u → w.cell? ⟨g, o + j, none⟩ = some u
theorem InO.at {a : Option Addr} {n c : Nat} {l : List Oq} (h : InO (.slice a n c) l w) (I : Nat) (hI : I < l.length) : ∃ g o, a = some ⟨g, o, none⟩ ∧ OqC g (o + I * 20) l[I] w := by
  obtain ⟨g, o, e, _, hc⟩ := h.1.at I l[I] (List.getElem?_eq_getElem hI)
  exact ⟨g, o, e, fun j u hj => hc j u (by simpa [ROq] using hj)⟩
/-! ### How a file system that was loaded stands -/
def FmX (w : World) (t0 fb I : Nat) (X : Im) (wr : World) : Prop := ∃ mb ot L T, FsH fb mb ot L (hOf X) (qOf X.l) X.l.length T wr ∧ Nw w wr ∧ (∀ k, Bk fb mb ot L (qOf X.l) k → w.heap.size ≤ k) ∧ WF X ∧ totE X.l ≤ t0 + I ∧ T.length ≤ I
theorem FmX.nw (h : FmX w t0 fb I X wr) (f : Nw wr w') : FmX w t0 fb I X w' := by
  obtain ⟨mb, ot, L, T, h1, h2, h3⟩ := h
  exact ⟨mb, ot, L, T, h1.nw f, h2.trans f, h3⟩
theorem FmX.n (h : FmX w t0 fb I X wr) : Nw w wr := by obtain ⟨mb, ot, L, T, h1, h2, h3⟩ := h; exact h2
theorem acts_one (X : Im) (o : Oq) : (opR X o).acts.length ≤ 1 := by
  have hA : ∀ op d s kd mt tgt, (addR X op d s kd mt tgt).acts.length ≤ 1 := fun _ _ _ _ _ _ => by unfold addR; split <;> simp
  have hR : ∀ op d s b, (remR X op d s b).acts.length ≤ 1 := fun _ _ _ _ => by unfold remR; split <;> simp
  unfold opR
  by_cases h1 : o.kind = 1
  · rw [if_pos h1]; exact hA ..
  rw [if_neg h1]
  by_cases h2 : o.kind = 2
  · rw [if_pos h2]; exact hA ..
  rw [if_neg h2]
  by_cases h3 : o.kind = 3
  · rw [if_pos h3]; exact hA ..
  rw [if_neg h3]
  by_cases h4 : o.kind = 4
  · rw [if_pos h4]; unfold lnkR; split <;> simp
  rw [if_neg h4]
  by_cases h5 : o.kind = 5
  · rw [if_pos h5]; unfold wrR; split <;> simp
  rw [if_neg h5]
  by_cases h6 : o.kind = 6
  · rw [if_pos h6]; unfold rszR; split <;> simp
  rw [if_neg h6]
  by_cases h7 : o.kind = 7
  · rw [if_pos h7]; exact hR ..
  rw [if_neg h7]
  by_cases h8 : o.kind = 8
  · rw [if_pos h8]; exact hR ..
  rw [if_neg h8]
  by_cases h9 : o.kind = 9
  · rw [if_pos h9]; unfold rnR; split <;> simp
  rw [if_neg h9]
  by_cases h10 : o.kind = 10
  · rw [if_pos h10]; unfold chR; split <;> simp
  rw [if_neg h10]
  by_cases h11 : o.kind = 11
  · rw [if_pos h11]; simp
  rw [if_neg h11]
  by_cases h12 : o.kind = 12
  · rw [if_pos h12]; simp
  rw [if_neg h12]
  by_cases h13 : o.kind = 13
  · rw [if_pos h13]; simp
  rw [if_neg h13]
  by_cases h14 : o.kind = 14
  · rw [if_pos h14]; simp
  rw [if_neg h14]
  simp
theorem fm_start {X0 : Im} {mb : Nat} (h1 : ldX X0 X) (h2 : Blt X w fb mb wr) (ht : totE X0.l ≤ t0) : FmX w t0 fb 0 X wr := by
  obtain ⟨L, k1, k2, k3⟩ := h2
  exact ⟨mb, none, L, [], k1, k2, k3, h1.1, Nat.le_trans h1.2 ht, Nat.le_refl _⟩
theorem fm_calls (h : FmX w t0 fb I X wr) (hb : t0 + I ≤ 1000000) (ho : OqR o wr) : Calls Tryz.prog 12 #[.pointer (some ⟨fb, 0, none⟩), .agg (opC o)] wr fun e w1 => ∃ a b, e = .returned (.tuple #[.int .i64 a, .int .i64 b]) ∧ Hid (a = (opR X o).n ∧ b = (opR X o).e ∧ FmX w t0 fb (I + 1) (opR X o).X w1) := by
  obtain ⟨mb, ot, L, T, k1, k2, k3, k4, k5, k6⟩ := h
  refine Calls.mono (calls_any ⟨k4, by omega, k1, by omega, ho.ok, ho.bn, ho.bsl⟩) (fun e w1 hh => ?_)
  obtain ⟨e1, ot', L', m1, m2, m3⟩ := hh
  have := k2.size
  have hg := opR_good k4 o
  have ha := acts_one X o
  refine ⟨_, _, e1, rfl, rfl, mb, ot', L', _, m1, k2.then m2 (fun k hk => .inr (k3 k hk)), fun k hk => ?_, hg.1, by omega, by simp only [List.length_append]; omega⟩
  rcases m3 k hk with h | h
  · exact k3 k h
  · omega
/-- The same, with its image. -/
def FmJ (w : World) (t0 fb I : Nat) (X : Im) (a : Option Addr) (n c : Nat) (wr : World) : Prop := FmX w t0 fb I X wr ∧ ∃ l, ImR (.slice a n c) l wr ∧ l.map Nq.x = X.l ∧ l.length = n
theorem FmJ.nw {a : Option Addr} {n c : Nat} (h : FmJ w t0 fb I X a n c wr) (f : Nw wr w') : FmJ w t0 fb I X a n c w' := by
  obtain ⟨h1, l, h2, h3, h4⟩ := h
  exact ⟨h1.nw f, l, h2.nw f, h3, h4⟩
theorem fm_image (h : FmX w t0 fb I X wr) (hb : t0 + I ≤ 1000000) : Calls Tryz.prog 13 #[.pointer (some ⟨fb, 0, none⟩)] wr fun e w1 => ∃ a n c, e = .returned (imV X (.slice a n c)) ∧ Hid (FmJ w t0 fb I X a n c w1) := by
  have h0 := h
  obtain ⟨mb, ot, L, T, k1, k2, k3, k4, k5, k6⟩ := h
  refine Calls.mono (image_X k4 (by omega) k1) (fun e w1 hh => ?_)
  obtain ⟨a, n, c, l, e1, e2, e3, e4⟩ := hh
  exact ⟨a, n, c, e1, h0.nw e2.1, l, e2.r, e3, e4⟩
theorem FmJ.len {a : Option Addr} {n c : Nat} (h : FmJ w t0 fb I X a n c wr) : n = X.l.length := by
  obtain ⟨h1, l, h2, h3, h4⟩ := h
  rw [← h4, ← h3, List.length_map]
theorem FmX.wf (h : FmX w t0 fb I X wr) : WF X := by obtain ⟨mb, ot, L, T, k1, k2, k3, k4, k5, k6⟩ := h; exact k4
theorem wf_ndw (hX : WF X) (ht : totE X.l ≤ 1000000) {x : Nd} (hx : x ∈ X.l) : NdW x := by
  have h1 := hX.kinds x hx
  have h2 := hX.nums x hx
  have h3 := hX.x2
  have h4 := Nat.le_trans (sumF_mem (fun x => x.ents.length) hx) ht
  refine ⟨by have := h1.tlen; omega, fun e he => ?_, fun e he => ?_, i64_of (by omega) (by omega), ?_, by have := h1.len; omega, by omega⟩
  · exact ((wf_ents hX hx).ent e he).1
  · obtain ⟨_, _, y, hy, hyn⟩ := hX.es x hx e he
    have := hX.nums y hy
    exact i64_of (by omega) (by omega)
  · rcases h1.2 with h | h | h <;> rw [h.1] <;> unfold I64 <;> omega
theorem fm_valid {a : Option Addr} {n c : Nat} (h : FmJ w t0 fb I X a n c wr) (hb : t0 + I ≤ 1000000) : Calls Tryz.prog 32 #[imV X (.slice a n c)] wr fun e w1 => e = .returned (.bool true) ∧ Hid (Nw wr w1) := by
  obtain ⟨⟨mb, ot, L, T, k1, k2, k3, k4, k5, k6⟩, l, h2, h3, h4⟩ := h
  refine Calls.mono (valid_any X l a n c h3 h4.symm h2 (fun y hy => wf_ndw k4 (by omega) (by rw [← h3]; exact List.mem_map_of_mem hy))) (fun e w1 hh => ?_)
  obtain ⟨B, rfl, hB, hN⟩ := hh
  rw [hB.2 k4]
  exact ⟨rfl, hN⟩
theorem fm_at {a : Option Addr} {n c : Nat} (h : FmJ w t0 fb I X a n c wr) (J : Nat) (hJ : J < n) : ∃ g o y, a = some ⟨g, o, none⟩ ∧ X.l[J]? = some y.x ∧ y.d.n = y.x.data.length ∧ NqC g (o + J * 10) y wr ∧ y.d.n ≤ y.d.c ∧ y.d.c < 9223372036854775808 := by
  obtain ⟨h1, l, h2, h3, h4⟩ := h
  have hl : J < l.length := by omega
  obtain ⟨g, o, e, hc⟩ := h2.at J hl
  have hd := (h2.2 _ (List.getElem_mem hl)).dn
  exact ⟨g, o, l[J], e, by rw [← h3, List.getElem?_map, List.getElem?_eq_getElem hl]; rfl, hd.1, hc, hd.2.2, hd.2.1⟩
theorem held_le (X : Im) (J : Nat) : heldF (X.l.take J) ≤ heldF X.l := by
  conv => rhs; rw [← List.take_append_drop J X.l]
  rw [heldF_sum, heldF_sum, sumF_append]
  omega
end Go.Proofs.YtcogkhcfpgelhabGreat

namespace Go.Proofs.YtcogkhcfpgelhabGreat
open Go.RowKit
set_option linter.unusedVariables false
set_option maxRecDepth 100000
variable {w w' V : World}
/-! ### The document's SameNode and Same, of what is the same -/
theorem neq_meta (a b c d e : Int) (w : World) : (binOp BinOp.neq 37 (.agg #[.int .u32 a, .int .u32 b, .int .u32 c, .int .i64 d, .int .i32 e]) (.agg #[.int .u32 a, .int .u32 b, .int .u32 c, .int .i64 d, .int .i32 e])).run Tryz.prog w = .ok (.bool false) w := by
  have u2 := Tryz.underlying2
  have u32 := Tryz.underlying35
  have i32 := Tryz.underlying21
  have hS : Tryz.prog.underlying 37 = some (.struct (Tryz.prog.fieldsOf 37)) := by kernel_rfl
  have he : (Op.equalIn 10000 37 (.agg #[.int .u32 a, .int .u32 b, .int .u32 c, .int .i64 d, .int .i32 e]) (.agg #[.int .u32 a, .int .u32 b, .int .u32 c, .int .i64 d, .int .i32 e])).run Tryz.prog w = .ok true w := by
    rw [show (10000 : Nat) = 9999 + 1 from rfl, run_equalIn_agg w 9999 37 _ _ hS (by kernel_rfl)]
    simp only [Program.fieldsOf, Tryz.underlying37]
    go_simp
  have he' : (Op.equalIn Op.maxDepth 37 (.agg #[.int .u32 a, .int .u32 b, .int .u32 c, .int .i64 d, .int .i32 e]) (.agg #[.int .u32 a, .int .u32 b, .int .u32 c, .int .i64 d, .int .i32 e])).run Tryz.prog w = .ok true w := he
  simp [binOp, Op.equal, he']
theorem neq_named (s : ByteArray) (b : Int) (w : World) : (binOp BinOp.neq 57 (.agg #[.string s, .int .i64 b]) (.agg #[.string s, .int .i64 b])).run Tryz.prog w = .ok (.bool false) w := by
  have u3 := Tryz.underlying3
  have u9 := Tryz.underlying9
  have hS : Tryz.prog.underlying 57 = some (.struct (Tryz.prog.fieldsOf 57)) := by kernel_rfl
  have he : (Op.equalIn 10000 57 (.agg #[.string s, .int .i64 b]) (.agg #[.string s, .int .i64 b])).run Tryz.prog w = .ok true w := by
    rw [show (10000 : Nat) = 9999 + 1 from rfl, run_equalIn_agg w 9999 57 _ _ hS (by kernel_rfl)]
    simp only [Program.fieldsOf, Tryz.underlying57]
    go_simp
  have he' : (Op.equalIn Op.maxDepth 57 (.agg #[.string s, .int .i64 b]) (.agg #[.string s, .int .i64 b])).run Tryz.prog w = .ok true w := he
  simp [binOp, Op.equal, he']
set_option maxHeartbeats 8000000 in
theorem sameNode_any (x : Nd) (d1 e1 d2 e2 : S3) (h1 : NqR ⟨x, d1, e1⟩ w) (h2 : NqR ⟨x, d2, e2⟩ w) (hel : x.ents.length ≤ 1000000000000) : Calls Tryz.prog 42 #[.agg (nqC ⟨x, d1, e1⟩), .agg (nqC ⟨x, d2, e2⟩)] w fun e w' => e = .returned (.bool true) ∧ Nw w w' := by
  obtain ⟨P, hP⟩ : ∃ P : Ending → World → Prop, P = fun e w' => e = .returned (.bool true) ∧ Nw w w' := ⟨_, rfl⟩
  rw [← hP]
  have HF : Hid (∀ V, Nw w V → P (.returned (.bool true)) V) := fun V hV => by rw [hP]; exact ⟨rfl, hV⟩
  obtain ⟨V, hV⟩ : ∃ V, V = (w.alloc (.cells (nqC ⟨x, d1, e1⟩) 44)).alloc (.cells (nqC ⟨x, d2, e2⟩) 44) := ⟨_, rfl⟩
  have hN1 : Nw w (w.alloc (.cells (nqC ⟨x, d1, e1⟩) 44)) := (Fr.refl _ _).alloc _
  have hN2 : Nw (w.alloc (.cells (nqC ⟨x, d1, e1⟩) 44)) V := by rw [hV]; exact (Fr.refl _ _).alloc _
  have hNV := hN1.trans hN2
  have hA : NqC w.heap.size 0 ⟨x, d1, e1⟩ V := (NqC.made w ⟨x, d1, e1⟩).nw hN2
  have hB : NqC (w.heap.size + 1) 0 ⟨x, d2, e2⟩ V := by
    have := NqC.made (w.alloc (.cells (nqC ⟨x, d1, e1⟩) 44)) ⟨x, d2, e2⟩
    rw [← hV] at this
    have e : (w.alloc (.cells (nqC ⟨x, d1, e1⟩) 44)).heap.size = w.heap.size + 1 := by simp
    rw [e] at this
    exact this
  have k1 := conv_any (h1.nw hNV).1
  have k2 := conv_any (h2.nw hNV).1
  have l1 : e1.n = x.ents.length := h1.en.1
  have l2 : e2.n = x.ents.length := h2.en.1
  have s1 := (h1.nw hNV).2
  have s2 := (h2.nw hNV).2
  obtain ⟨d1a, d1n, d1c⟩ := d1
  obtain ⟨d2a, d2n, d2c⟩ := d2
  obtain ⟨e1a, e1n, e1c⟩ := e1
  obtain ⟨e2a, e2n, e2c⟩ := e2
  simp only at l1 l2 s1 s2 k1 k2
  obtain ⟨N, hN⟩ : ∃ N, x.ents.length = N := ⟨_, rfl⟩
  rw [hN] at l1 l2 hel
  subst l1 l2
  have HN := tHid hN
  have HV := tHid hV
  have HS1 := tHid s1
  have HS2 := tHid s2
  obtain ⟨a0, a1, a2, a3, a4, a5, a6, a7, a8, a9⟩ := hA
  obtain ⟨b0, b1, b2, b3, b4, b5, b6, b7, b8, b9⟩ := hB
  simp only [Nat.zero_add] at a1 a2 a3 a4 a5 a6 a7 a8 a9 b1 b2 b3 b4 b5 b6 b7 b8 b9
  have HF : Hid (∀ U, Nw V U → P (.returned (.bool true)) U) := fun U hU => HF.out U (hNV.trans hU)
  have hnm := neq_meta x.mt.mode x.mt.uid x.mt.gid x.mt.time x.mt.nano V
  clear hP hV hN1 hN2 hNV h1 h2 s1 s2 hN
  unfold nqC at *
  go_enter Tryz.func42, Tryz.ntmps42
  go_upto_region 1 with fail
  rw [← HV.out]
  clear HV
  generalize w.heap.size = nb at *
  go_wp2_with fail
  clear hnm k1 k2 a0 a1 a2 a3 a4 a5 a6 a7 a8 b0 b1 b2 b3 b4 b5 b6 b7 b8
  go_loopg [5] e2n (fun kx i wr => ∃ I : Nat, I ≤ e2n ∧ e2n - I ≤ kx ∧ i = .int .i64 I ∧ Hid (Nw V wr))
  case atStart => exact ⟨0, by omega, by omega, rfl, Fr.refl _ _⟩
  case round =>
    obtain ⟨I, hI, hkx, rfl, HR⟩ := hrel
    have f9 : wr.cell? ⟨nb, 9, none⟩ = some (.slice e1a e2n e1c) := HR.out.cell a9
    have g9 : wr.cell? ⟨nb + 1, 9, none⟩ = some (.slice e2a e2n e2c) := HR.out.cell b9
    clear a9 b9
    by_cases hlt : I < e2n
    · have hIl : I < x.ents.length := by rw [HN.out]; exact hlt
      obtain ⟨ga, oa, rfl, _, hca⟩ := (HS1.out.nw HR.out).at I (x.ents[I]) (List.getElem?_eq_getElem hIl)
      obtain ⟨gb, ob, rfl, _, hcb⟩ := (HS2.out.nw HR.out).at I (x.ents[I]) (List.getElem?_eq_getElem hIl)
      obtain ⟨s, k, he⟩ : ∃ s k, x.ents[I] = (s, k) := ⟨_, _, rfl⟩
      rw [he] at hca hcb
      have c0 : wr.cell? ⟨ga, oa + I * 2, none⟩ = some (.string (mk s)) := hca 0 _ rfl
      have c1 : wr.cell? ⟨ga, oa + I * 2 + 1, none⟩ = some (.int .i64 k) := hca 1 _ rfl
      have c2 : wr.cell? ⟨gb, ob + I * 2, none⟩ = some (.string (mk s)) := hcb 0 _ rfl
      have c3 : wr.cell? ⟨gb, ob + I * 2 + 1, none⟩ = some (.int .i64 k) := hcb 1 _ rfl
      have HD : Hid (Nw V wr.drew) := HR.out.drew
      have hq := fun w => neq_named (mk s) k w
      have hlt2 : (I : Int) < (e2n : Int) := by omega
      have hltd := decide_eq_true hlt2
      have hltn := decide_eq_true hlt
      have zwj : IntKind.i64.wrap ((I : Int) + 1) = (I : Int) + 1 := by rw [IntKind.wrap_i64]; omega
      clear hIl hca hcb he HS1 HS2 HF HN HR
      go_upto_region 6 with fail
      go_region
      go_wp2_with fail
      go_roundg (e2n - (I + 1))
      case measure => omega
      case rel => exact ⟨I + 1, by omega, by omega, by first | rfl | (congr 1), HD⟩
    · have hlt2 : ¬ (I : Int) < (e2n : Int) := by omega
      have hltd := decide_eq_false hlt2
      have hltn := decide_eq_false hlt
      have HE := tHid (HF.out wr HR.out)
      clear HS1 HS2
      go_wp2_with fail
      exact HE.out
end Go.Proofs.YtcogkhcfpgelhabGreat

namespace Go.Proofs.YtcogkhcfpgelhabGreat
open Go.RowKit
set_option linter.unusedVariables false
set_option maxRecDepth 100000
variable {w w' V : World}
theorem im_at {a : Option Addr} {n c : Nat} {l : List Nq} {X : Im} (h : ImR (.slice a n c) l w) (hm : l.map Nq.x = X.l) (I : Nat) (hI : I < n) : ∃ g o d e x, a = some ⟨g, o, none⟩ ∧ X.l[I]? = some x ∧ NqR ⟨x, d, e⟩ w ∧ w.rangeAt g (o + I * 10) (nqC ⟨x, d, e⟩).toList := by
  have hn : n = l.length := by obtain ⟨_, _, e, _⟩ := h.1.form; injection e
  have hl : I < l.length := by omega
  obtain ⟨g, o, e, _, hc⟩ := h.1.at I l[I] (List.getElem?_eq_getElem hl)
  exact ⟨g, o, l[I].d, l[I].e, l[I].x, e, by rw [← hm, List.getElem?_map, List.getElem?_eq_getElem hl]; rfl, h.2 _ (List.getElem_mem hl), fun j u hj => hc j u (by simpa [RNq] using hj)⟩
def ldN (a : Value) : Sem Value := Instr.loadAt 44 a
theorem ldN_fold (a : Value) : Instr.loadAt 44 a = ldN a := rfl
section
attribute [local go_sem ↓] ldN_fold
set_option maxHeartbeats 8000000 in
theorem same_any (X : Im) (l1 l2 : List Nq) (a1 a2 : Option Addr) (n c1 c2 : Nat) (h1 : ImR (.slice a1 n c1) l1 w) (h2 : ImR (.slice a2 n c2) l2 w) (m1 : l1.map Nq.x = X.l) (m2 : l2.map Nq.x = X.l) (hn9 : n ≤ 1000000000) (hel : ∀ x ∈ X.l, x.ents.length ≤ 1000000000000) : Calls Tryz.prog 14 #[imV X (.slice a1 n c1), imV X (.slice a2 n c2)] w fun e w' => e = .returned (.bool true) ∧ Nw w w' := by
  obtain ⟨P, hP⟩ : ∃ P : Ending → World → Prop, P = fun e w' => e = .returned (.bool true) ∧ Nw w w' := ⟨_, rfl⟩
  rw [← hP]
  have HF0 : Hid (∀ V, Nw w V → P (.returned (.bool true)) V) := fun V hV => by rw [hP]; exact ⟨rfl, hV⟩
  obtain ⟨V, hV⟩ : ∃ V, V = (w.alloc (.cells (ciC X (.slice a1 n c1)) 24)).alloc (.cells (ciC X (.slice a2 n c2)) 24) := ⟨_, rfl⟩
  have hN1 : Nw w (w.alloc (.cells (ciC X (.slice a1 n c1)) 24)) := (Fr.refl _ _).alloc _
  have hN2 : Nw (w.alloc (.cells (ciC X (.slice a1 n c1)) 24)) V := by rw [hV]; exact (Fr.refl _ _).alloc _
  have hNV := hN1.trans hN2
  have hrA : V.heap[w.heap.size]? = some (.cells (ciC X (.slice a1 n c1)) 24) := hN2.heap (nh w _)
  have hrB : V.heap[w.heap.size + 1]? = some (.cells (ciC X (.slice a2 n c2)) 24) := by
    have := nh (w.alloc (.cells (ciC X (.slice a1 n c1)) 24)) (.cells (ciC X (.slice a2 n c2)) 24)
    have e : (w.alloc (.cells (ciC X (.slice a1 n c1)) 24)).heap.size = w.heap.size + 1 := by simp
    rw [← hV, e] at this
    exact this
  have a0 := (rc hrA 0 _ rfl).1
  have a1' := (rc hrA 1 _ rfl).1
  have a2' := (rc hrA 2 _ rfl).1
  have a3 := (rc hrA 3 _ rfl).1
  have b0 := (rc hrB 0 _ rfl).1
  have b1 := (rc hrB 1 _ rfl).1
  have b2 := (rc hrB 2 _ rfl).1
  have b3 := (rc hrB 3 _ rfl).1
  have HF : Hid (∀ U, Nw V U → P (.returned (.bool true)) U) := fun U hU => HF0.out U (hNV.trans hU)
  have HS1 := tHid (h1.nw hNV)
  have HS2 := tHid (h2.nw hNV)
  have HM1 := tHid m1
  have HM2 := tHid m2
  have HEL := tHid hel
  have HV := tHid hV
  clear hP HF0 hV hN1 hN2 hNV hrA hrB h1 h2 m1 m2 hel
  go_enter Tryz.func14, Tryz.ntmps14
  go_upto_region 1 with fail
  rw [← HV.out]
  clear HV
  generalize w.heap.size = nb at *
  go_wp2_with fail
  clear a0 a1' a2' b0 b1 b2
  go_loopg [5] n (fun kx i wr => ∃ I : Nat, I ≤ n ∧ n - I ≤ kx ∧ i = .int .i64 I ∧ Hid (Nw V wr))
  case atStart => exact ⟨0, by omega, by omega, rfl, Fr.refl _ _⟩
  case round =>
    obtain ⟨I, hI, hkx, rfl, HR⟩ := hrel
    have f3 : wr.cell? ⟨nb, 3, none⟩ = some (.slice a1 n c1) := HR.out.cell a3
    have g3 : wr.cell? ⟨nb + 1, 3, none⟩ = some (.slice a2 n c2) := HR.out.cell b3
    clear a3 b3
    by_cases hlt : I < n
    · obtain ⟨ga, oa, d1, e1, x, rfl, hx1, hq1, hr1⟩ := im_at (HS1.out.nw HR.out) HM1.out I hlt
      obtain ⟨gb, ob, d2, e2, x2, rfl, hx2, hq2, hr2⟩ := im_at (HS2.out.nw HR.out) HM2.out I hlt
      obtain rfl : x = x2 := by rw [hx1] at hx2; injection hx2
      have hxe := HEL.out x (List.mem_of_getElem? hx1)
      obtain ⟨C1, hC1⟩ : ∃ C1 : List Value, C1 = (nqC ⟨x, d1, e1⟩).toList := ⟨_, rfl⟩
      obtain ⟨C2, hC2⟩ : ∃ C2 : List Value, C2 = (nqC ⟨x, d2, e2⟩).toList := ⟨_, rfl⟩
      have HC : Hid (∀ U, Nw wr U → Calls Tryz.prog 42 #[.agg C1.toArray, .agg C2.toArray] U fun e w' => e = .returned (.bool true) ∧ Hid (Nw wr w')) := fun U hU => by
        have e1' : C1.toArray = nqC ⟨x, d1, e1⟩ := by rw [hC1]
        have e2' : C2.toArray = nqC ⟨x, d2, e2⟩ := by rw [hC2]
        rw [e1', e2']
        refine Calls.mono (sameNode_any x d1 e1 d2 e2 (hq1.nw hU) (hq2.nw hU) hxe) ?_
        rintro e w' ⟨rfl, h⟩
        exact ⟨rfl, hU.trans h⟩
      have z1 : (Tryz.prog.info? 44).map (·.size) = some C1.length := by rw [hC1]; kernel_rfl
      have z2 : (Tryz.prog.info? 44).map (·.size) = some C2.length := by rw [hC2]; kernel_rfl
      rw [← hC1] at hr1
      rw [← hC2] at hr2
      have L1 : ∀ U, (Nw wr U) → (ldN (.pointer (some ⟨ga, oa + I * 10, none⟩))).run Tryz.prog U = .ok (.agg C1.toArray) U := fun U hU => run_loadAt_mid U ga (oa + I * 10) 44 C1 _ (fun j v hv => hU.cell (hr1 j v hv)) Tryz.underlying44 rfl z1
      have L2 : ∀ U, (Nw wr U) → (ldN (.pointer (some ⟨gb, ob + I * 10, none⟩))).run Tryz.prog U = .ok (.agg C2.toArray) U := fun U hU => run_loadAt_mid U gb (ob + I * 10) 44 C2 _ (fun j v hv => hU.cell (hr2 j v hv)) Tryz.underlying44 rfl z2
      have K1 : ∀ U, (Nw wr U) → U.cell? ⟨nb, 3, none⟩ = some (.slice (some ⟨ga, oa, none⟩) n c1) := fun U hU => hU.cell f3
      have K2 : ∀ U, (Nw wr U) → U.cell? ⟨nb + 1, 3, none⟩ = some (.slice (some ⟨gb, ob, none⟩) n c2) := fun U hU => hU.cell g3
      have hlt2 : (I : Int) < (n : Int) := by omega
      have hltd := decide_eq_true hlt2
      have hltn := decide_eq_true hlt
      have zwj : IntKind.i64.wrap ((I : Int) + 1) = (I : Int) + 1 := by rw [IntKind.wrap_i64]; omega
      have HR2 : Hid (∀ U, Nw wr U → Nw V U) := fun U hU => HR.out.trans hU
      clear hx1 hx2 hq1 hq2 hr1 hr2 hxe hC1 hC2 z1 z2 HS1 HS2 HM1 HM2 HEL HF HR
      go_upto_region 6 with fail
      go_region_held3 (fun U => Nw wr U)
        (first | exact Fr.refl _ _ | exact (Fr.refl _ _).drew | exact H5.out)
        (first | (go_at_call 42; with_reducible refine (HC.out _ ?_).mono ?_; (first | exact Fr.refl _ _ | exact (Fr.refl _ _).drew); rintro e w5 ⟨rfl, H5⟩))
      go_wp2_with fail
      go_roundg (n - (I + 1))
      case measure => omega
      case rel => exact ⟨I + 1, by omega, by omega, by first | rfl | (congr 1), HR2.out _ H5.out⟩
    · have hlt2 : ¬ (I : Int) < (n : Int) := by omega
      have hltd := decide_eq_false hlt2
      have hltn := decide_eq_false hlt
      have HE := tHid (HF.out wr HR.out)
      clear HS1 HS2 HM1 HM2 HEL
      go_wp2_with fail
      exact HE.out
end
end Go.Proofs.YtcogkhcfpgelhabGreat

namespace Go.Proofs.YtcogkhcfpgelhabGreat
open Go.RowKit
set_option linter.unusedVariables false
set_option maxRecDepth 100000
variable {D w w' wr w1 V W : World} {X : Im} {o : Oq} {t0 fb I : Nat} {B C : Nat → Prop}
/-! ### File systems beside each other -/
/-- A file system in the blocks B, made since D. -/
def Fq (D : World) (B : Nat → Prop) (t0 fb I : Nat) (X : Im) (T : List Ac) (wr : World) : Prop := ∃ mb ot L, FsH fb mb ot L (hOf X) (qOf X.l) X.l.length T wr ∧ (∀ k, Bk fb mb ot L (qOf X.l) k → B k) ∧ Nw D wr ∧ (∀ k, B k → D.heap.size ≤ k ∧ k < wr.heap.size) ∧ WF X ∧ totE X.l ≤ t0 + I ∧ T.length ≤ I
variable {T : List Ac}
theorem Fq.nw (h : Fq D B t0 fb I X T wr) (f : Nw wr w') : Fq D B t0 fb I X T w' := by
  obtain ⟨mb, ot, L, h1, h2, h3, h4, h5⟩ := h
  have := f.size
  exact ⟨mb, ot, L, h1.nw f, h2, h3.trans f, fun k hk => ⟨(h4 k hk).1, by have := (h4 k hk).2; omega⟩, h5⟩
theorem Fq.n (h : Fq D B t0 fb I X T wr) : Nw D wr := by obtain ⟨mb, ot, L, h1, h2, h3, h4, h5⟩ := h; exact h3
theorem Fq.wf (h : Fq D B t0 fb I X T wr) : WF X := by obtain ⟨mb, ot, L, h1, h2, h3, h4, h5, _⟩ := h; exact h5
theorem Fq.tot (h : Fq D B t0 fb I X T wr) : totE X.l ≤ t0 + I := by obtain ⟨mb, ot, L, h1, h2, h3, h4, h5, h6, _⟩ := h; exact h6
theorem Fq.x (h : Fq D B t0 fb I X T wr) : FmX D t0 fb I X wr := by
  obtain ⟨mb, ot, L, h1, h2, h3, h4, h5⟩ := h
  exact ⟨mb, ot, L, T, h1, h3, fun k hk => (h4 k (h2 k hk)).1, h5⟩
/-- Another one's call leaves it. -/
theorem Fq.kept (h : Fq D B t0 fb I X T wr) (f : Fr C wr w') (hd : ∀ k, C k → ¬ B k) (hC : ∀ k, C k → D.heap.size ≤ k) : Fq D B t0 fb I X T w' := by
  obtain ⟨mb, ot, L, h1, h2, h3, h4, h5⟩ := h
  have := f.size
  exact ⟨mb, ot, L, h1.kept f (fun k hk hb => hd k hk (h2 k hb)), h2, h3.then f (fun k hk => .inr (hC k hk)), fun k hk => ⟨(h4 k hk).1, by have := (h4 k hk).2; omega⟩, h5⟩
/-- What a file system may have behind a call. -/
def Gr (B : Nat → Prop) (wr w1 : World) : Nat → Prop := fun k => B k ∨ wr.heap.size ≤ k ∧ k < w1.heap.size
theorem Gr.apart (hC : ∀ k, C k → k < wr.heap.size) (hd : ∀ k, B k → ¬ C k) : ∀ k, Gr B wr w1 k → ¬ C k := fun k hk hc => by
  rcases hk with h | h
  · exact hd k h hc
  · have := hC k hc; omega
theorem fq_calls (h : Fq D B t0 fb I X T wr) (hb : t0 + I ≤ 1000000) (ho : OqR o wr) : Calls Tryz.prog 12 #[.pointer (some ⟨fb, 0, none⟩), .agg (opC o)] wr fun e w1 => ∃ a b, e = .returned (.tuple #[.int .i64 a, .int .i64 b]) ∧ Hid (a = (opR X o).n ∧ b = (opR X o).e ∧ Fq D (Gr B wr w1) t0 fb (I + 1) (opR X o).X (T ++ (opR X o).acts) w1 ∧ Fr B wr w1) := by
  obtain ⟨mb, ot, L, k1, k2, k3, k4, k5, k6, k7⟩ := h
  refine Calls.mono (calls_any ⟨k5, by omega, k1, by omega, ho.ok, ho.bn, ho.bsl⟩) (fun e w1 hh => ?_)
  obtain ⟨e1, ot', L', m1, m2, m3⟩ := hh
  have s1 := k3.size
  have s2 := m2.size
  have hg := opR_good k5 o
  have ha := acts_one X o
  refine ⟨_, _, e1, rfl, rfl, ⟨mb, ot', L', m1, fun k hk => ?_, k3.then m2 (fun k hk => .inr (k4 k (k2 k hk)).1), fun k hk => ?_, hg.1, by omega, by simp only [List.length_append]; omega⟩, m2.mono (fun k hk => .inl (k2 k hk))⟩
  · rcases m3 k hk with h | h
    · exact .inl (k2 k h)
    · exact .inr ⟨h, m1.lt k hk⟩
  · rcases hk with h | h
    · have := k4 k h; exact ⟨this.1, by omega⟩
    · exact ⟨by omega, h.2⟩
theorem fq_made {mb : Nat} (h : Blt X wr fb mb w1) (hD : Nw D wr) (hX : WF X) (ht : totE X.l ≤ t0) : Fq D (fun k => wr.heap.size ≤ k ∧ k < w1.heap.size) t0 fb 0 X [] w1 := by
  obtain ⟨L, k1, k2, k3⟩ := h
  have := hD.size
  exact ⟨mb, none, L, k1, fun k hk => ⟨k3 k hk, k1.lt k hk⟩, hD.trans k2, fun k hk => ⟨by omega, hk.2⟩, hX, ht, Nat.le_refl _⟩
/-- Image, of one of them. -/
theorem fq_image (h : Fq D B t0 fb I X T wr) (hb : t0 + I ≤ 1000000) : Calls Tryz.prog 13 #[.pointer (some ⟨fb, 0, none⟩)] wr (CpO wr X) := by
  obtain ⟨mb, ot, L, k1, k2, k3, k4, k5, k6, k7⟩ := h
  exact image_X k5 (by omega) k1
/-- Clone. -/
def ClO (D : World) (X : Im) (wr : World) (e : Ending) (w1 : World) : Prop := ∃ fb, e = .returned (.pointer (some ⟨fb, 0, none⟩)) ∧ Fq D (fun k => wr.heap.size ≤ k ∧ k < w1.heap.size) (totE X.l) fb 0 X [] w1 ∧ Nw wr w1
theorem Fq.wider {B' : Nat → Prop} (h : Fq D B t0 fb I X T wr) (hB : ∀ k, B k → B' k) (hB' : ∀ k, B' k → D.heap.size ≤ k ∧ k < wr.heap.size) : Fq D B' t0 fb I X T wr := by
  obtain ⟨mb, ot, L, k1, k2, k3, k4, k5⟩ := h
  exact ⟨mb, ot, L, k1, fun k hk => hB k (k2 k hk), k3, hB', k5⟩
set_option maxHeartbeats 4000000 in
theorem clone_any (h : Fq D B t0 fb I X T wr) (hb : t0 + I ≤ 1000000) : Calls Tryz.prog 17 #[.pointer (some ⟨fb, 0, none⟩)] wr (ClO D X wr) := by
  obtain ⟨P, hP⟩ : ∃ P : Ending → World → Prop, P = ClO D X wr := ⟨_, rfl⟩
  rw [← hP]
  have ht := h.tot
  have HI : Hid (Calls Tryz.prog 13 #[.pointer (some ⟨fb, 0, none⟩)] wr fun e w1 => ∃ a n c, e = .returned (imV X (.slice a n c)) ∧ Hid (Calls Tryz.prog 33 #[imV X (.slice a n c)] w1 fun e w2 => ∃ fc, e = .returned (.pointer (some ⟨fc, 0, none⟩)) ∧ Hid (P (.returned (.pointer (some ⟨fc, 0, none⟩))) w2))) := by
    refine Calls.mono (fq_image h hb) (fun e w1 hh => ?_)
    obtain ⟨a, n, c, l, e1, e2, e3, e4⟩ := hh
    refine ⟨a, n, c, e1, ?_⟩
    refine Calls.mono (build_any X h.wf l a n c e3 e4.symm e2.r (fun y hy => wf_ndw h.wf (by omega) (by rw [← e3]; exact List.mem_map_of_mem hy))) (fun e w2 hh => ?_)
    obtain ⟨fc, mb, rfl, hB⟩ := hh
    refine ⟨fc, rfl, ?_⟩
    show P _ _
    rw [hP]
    have n1 : Nw wr w1 := e2.1
    have hD := h.n.trans n1
    have s1 := n1.size
    have s2 := h.n.size
    have n2 : Nw w1 w2 := by obtain ⟨_, _, q, _⟩ := hB; exact q
    exact ⟨fc, rfl, (fq_made hB hD h.wf (Nat.le_refl _)).wider (fun k hk => ⟨by omega, hk.2⟩) (fun k hk => ⟨by omega, hk.2⟩), n1.trans n2⟩
  clear hP h ht hb
  go_enter Tryz.func17, Tryz.ntmps17
  go_wp2_with (first
    | (go_at_call 13; with_reducible refine HI.out.mono ?_; rintro e w1 ⟨a1, n1, c1, rfl, H1⟩)
    | (go_at_call 33; with_reducible refine H1.out.mono ?_; rintro e w2 ⟨fc, rfl, H2⟩))
  exact H2.out
end Go.Proofs.YtcogkhcfpgelhabGreat

namespace Go.Proofs.YtcogkhcfpgelhabGreat
open Go.RowKit
set_option linter.unusedVariables false
set_option maxRecDepth 100000
variable {D w w' wr w1 V W : World} {X : Im} {o : Oq} {t0 fb I : Nat} {B C M : Nat → Prop}
/-! ### An image in blocks of its own -/
def NqM (M : Nat → Prop) (y : Nq) (w : World) : Prop := Sl (fun k => ¬ M k) (.slice y.d.a y.d.n y.d.c) y.x.data w ∧ SlR RNm (fun k => ¬ M k) (.slice y.e.a y.e.n y.e.c) y.x.ents w
def ImM (M : Nat → Prop) (X : Im) (a : Option Addr) (n c : Nat) (w : World) : Prop := ∃ l, SlR RNq (fun k => ¬ M k) (.slice a n c) l w ∧ (∀ y ∈ l, NqM M y w) ∧ l.map Nq.x = X.l ∧ l.length = n
theorem ImM.kept {a : Option Addr} {n c : Nat} (h : ImM M X a n c w) (f : Fr C w w') (hd : ∀ k, C k → ¬ M k) : ImM M X a n c w' := by
  obtain ⟨l, h1, h2, h3⟩ := h
  exact ⟨l, h1.kept f hd, fun y hy => ⟨(h2 y hy).1.kept f hd, (h2 y hy).2.kept f hd⟩, h3⟩
theorem ImM.nw {a : Option Addr} {n c : Nat} (h : ImM M X a n c w) (f : Nw w w') : ImM M X a n c w' := h.kept f (fun _ h => h.elim)
theorem ImM.r {a : Option Addr} {n c : Nat} (h : ImM M X a n c w) : ∃ l, ImR (.slice a n c) l w ∧ l.map Nq.x = X.l ∧ l.length = n := by
  obtain ⟨l, h1, h2, h3⟩ := h
  exact ⟨l, ⟨h1.mono (fun _ h => h.elim), fun y hy => ⟨(h2 y hy).1.mono (fun _ h => h.elim), (h2 y hy).2.mono (fun _ h => h.elim)⟩⟩, h3⟩
theorem ogb_lt {od : Option Nat} {v : Value} {l : List By} {g : Nat} (h : OgB od v l w) (e : od = some g) : g < w.heap.size := by subst e; exact Ow.lt h
theorem ogr_lt {α : Type} {R : RT α} {og : Option Nat} {v : Value} {l : List α} {g : Nat} (h : OgR R og v l w) (e : og = some g) : g < w.heap.size := by
  subst e
  obtain ⟨xs, _, _, _, _, h5⟩ := h
  exact h5.lt
theorem cpo_m {e : Ending} (h : CpO wr X e w1) : ∃ a n c, e = .returned (imV X (.slice a n c)) ∧ ImM (fun k => wr.heap.size ≤ k ∧ k < w1.heap.size) X a n c w1 ∧ Nw wr w1 := by
  obtain ⟨a, n, c, l, e1, ⟨e2, ⟨og, e5, e6⟩, e7⟩, e3, e4⟩ := h
  refine ⟨a, n, c, e1, ⟨l, (e5.slr rnqOk).mono (fun k hk e => hk ⟨e6 k e, ogr_lt e5 e⟩), fun y hy => ?_, e3, e4⟩, e2⟩
  obtain ⟨⟨od, p1, p2⟩, oe, p3, p4⟩ := e7 y hy
  exact ⟨p1.sl.mono (fun k hk e => hk ⟨p2 k e, ogb_lt p1 e⟩), (p3.slr rnmOk).mono (fun k hk e => hk ⟨p4 k e, ogr_lt p3 e⟩)⟩
/-- Two images of one X are the same. -/
theorem same_m {M' : Nat → Prop} {a a' : Option Addr} {n n' c c' : Nat} (hX : WF X) (ht : totE X.l ≤ 1000000) (h1 : ImM M X a n c w) (h2 : ImM M' X a' n' c' w) : Calls Tryz.prog 14 #[imV X (.slice a n c), imV X (.slice a' n' c')] w fun e w' => e = .returned (.bool true) ∧ Nw w w' := by
  obtain ⟨l1, p1, p2, p3⟩ := h1.r
  obtain ⟨l2, q1, q2, q3⟩ := h2.r
  have e : n = n' := by rw [← p3, ← q3]; have := congrArg List.length (p2.trans q2.symm); simpa using this
  subst e
  have hl : n = X.l.length := by rw [← p3, ← p2, List.length_map]
  exact same_any X l1 l2 a a' n c c' p1 q1 p2 q2 (by have := wf_cnt hX; omega) (fun x hx => by have := Nat.le_trans (sumF_mem (fun x => x.ents.length) hx) ht; omega)
/-! ### Four file systems -/
structure FsR where
  fb : Nat
  X : Im
  J : Nat
def G4 (D : World) (t0 : Nat) (M : Nat → Prop) (a b c d : FsR) (wr : World) : Prop := ∃ A B C E Ta Tb Tc Te, Fq D A t0 a.fb a.J a.X Ta wr ∧ Fq D B t0 b.fb b.J b.X Tb wr ∧ Fq D C t0 c.fb c.J c.X Tc wr ∧ Fq D E t0 d.fb d.J d.X Te wr ∧
  (∀ k, A k → ¬ B k) ∧ (∀ k, A k → ¬ C k) ∧ (∀ k, A k → ¬ E k) ∧ (∀ k, B k → ¬ C k) ∧ (∀ k, B k → ¬ E k) ∧ (∀ k, C k → ¬ E k) ∧ (∀ k, M k → k < wr.heap.size ∧ ¬ A k ∧ ¬ B k ∧ ¬ C k ∧ ¬ E k)
variable {a b c d : FsR}
theorem G4.nw (h : G4 D t0 M a b c d wr) (f : Nw wr w') : G4 D t0 M a b c d w' := by
  obtain ⟨A, B, C, E, Ta, Tb, Tc, Te, h1, h2, h3, h4, h5, h6, h7, h8, h9, h10, h11⟩ := h
  have := f.size
  exact ⟨A, B, C, E, Ta, Tb, Tc, Te, h1.nw f, h2.nw f, h3.nw f, h4.nw f, h5, h6, h7, h8, h9, h10, fun k hk => ⟨by have := (h11 k hk).1; omega, (h11 k hk).2⟩⟩
theorem G4.swap (h : G4 D t0 M a b c d wr) : G4 D t0 M b a c d wr := by
  obtain ⟨A, B, C, E, Ta, Tb, Tc, Te, h1, h2, h3, h4, h5, h6, h7, h8, h9, h10, h11⟩ := h
  exact ⟨B, A, C, E, Tb, Ta, Tc, Te, h2, h1, h3, h4, fun k hb ha => h5 k ha hb, h8, h9, h6, h7, h10, fun k hk => ⟨(h11 k hk).1, (h11 k hk).2.2.1, (h11 k hk).2.1, (h11 k hk).2.2.2⟩⟩
theorem G4.swap2 (h : G4 D t0 M a b c d wr) : G4 D t0 M a c b d wr := by
  obtain ⟨A, B, C, E, Ta, Tb, Tc, Te, h1, h2, h3, h4, h5, h6, h7, h8, h9, h10, h11⟩ := h
  exact ⟨A, C, B, E, Ta, Tc, Tb, Te, h1, h3, h2, h4, h6, h5, h7, fun k hc hb => h8 k hb hc, h10, h9, fun k hk => ⟨(h11 k hk).1, (h11 k hk).2.1, (h11 k hk).2.2.2.1, (h11 k hk).2.2.1, (h11 k hk).2.2.2.2⟩⟩
theorem G4.swap3 (h : G4 D t0 M a b c d wr) : G4 D t0 M a b d c wr := by
  obtain ⟨A, B, C, E, Ta, Tb, Tc, Te, h1, h2, h3, h4, h5, h6, h7, h8, h9, h10, h11⟩ := h
  exact ⟨A, B, E, C, Ta, Tb, Te, Tc, h1, h2, h4, h3, h5, h7, h6, h9, h8, fun k he hc => h10 k hc he, fun k hk => ⟨(h11 k hk).1, (h11 k hk).2.1, (h11 k hk).2.2.1, (h11 k hk).2.2.2.2, (h11 k hk).2.2.2.1⟩⟩
theorem G4.n (h : G4 D t0 M a b c d wr) : Nw D wr := by obtain ⟨A, B, C, E, Ta, Tb, Tc, Te, h1, _⟩ := h; exact h1.n
theorem G4.wf (h : G4 D t0 M a b c d wr) : WF a.X ∧ totE a.X.l ≤ t0 + a.J := by obtain ⟨A, B, C, E, Ta, Tb, Tc, Te, h1, _⟩ := h; exact ⟨h1.wf, h1.tot⟩
/-- A call on the first one. -/
theorem g4_calls (h : G4 D t0 M a b c d wr) (hb : t0 + a.J ≤ 1000000) (ho : OqR o wr) : Calls Tryz.prog 12 #[.pointer (some ⟨a.fb, 0, none⟩), .agg (opC o)] wr fun e w1 => ∃ x y, e = .returned (.tuple #[.int .i64 x, .int .i64 y]) ∧ Hid (x = (opR a.X o).n ∧ y = (opR a.X o).e ∧ G4 D t0 M ⟨a.fb, (opR a.X o).X, a.J + 1⟩ b c d w1 ∧ Fr (fun k => ¬ M k) wr w1) := by
  obtain ⟨A, B, C, E, Ta, Tb, Tc, Te, h1, h2, h3, h4, h5, h6, h7, h8, h9, h10, h11⟩ := h
  refine Calls.mono (fq_calls h1 hb ho) (fun e w1 hh => ?_)
  obtain ⟨x, y, e1, e2⟩ := hh
  obtain ⟨ex, ey, k1, k2⟩ := e2.out
  have lt : ∀ {B' : Nat → Prop} {t fc J : Nat} {Y : Im} {U : List Ac}, Fq D B' t fc J Y U wr → ∀ k, B' k → k < wr.heap.size := fun h k hk => by
    obtain ⟨_, _, _, _, _, _, h4, _⟩ := h
    exact (h4 k hk).2
  have ge : ∀ k, A k → D.heap.size ≤ k := fun k hk => by
    obtain ⟨_, _, _, _, _, _, h4, _⟩ := h1
    exact (h4 k hk).1
  have s := k2.size
  refine ⟨x, y, e1, ex, ey, ⟨Gr A wr w1, B, C, E, _, Tb, Tc, Te, k1, h2.kept k2 h5 ge, h3.kept k2 h6 ge, h4.kept k2 h7 ge, Gr.apart (lt h2) h5, Gr.apart (lt h3) h6, Gr.apart (lt h4) h7, h8, h9, h10, fun k hk => ?_⟩, k2.mono (fun k hk => .inl (fun hm => (h11 k hm).2.1 hk))⟩
  have hm := h11 k hk
  refine ⟨by omega, fun hg => ?_, hm.2.2⟩
  rcases hg with hg | hg
  · exact hm.2.1 hg
  · omega
theorem g4_image (h : G4 D t0 M a b c d wr) (hb : t0 + a.J ≤ 1000000) : Calls Tryz.prog 13 #[.pointer (some ⟨a.fb, 0, none⟩)] wr (CpO wr a.X) := by
  obtain ⟨A, B, C, E, Ta, Tb, Tc, Te, h1, h2⟩ := h
  exact fq_image h1 hb
end Go.Proofs.YtcogkhcfpgelhabGreat

namespace Go.Proofs.YtcogkhcfpgelhabGreat
open Go.RowKit
set_option linter.unusedVariables false
set_option maxRecDepth 100000
variable {D w w' wr w1 V W : World} {X : Im} {o : Oq} {t0 fb I N : Nat} {B M : Nat → Prop}
/-! ### VfsOn -/
theorem on_load {T : List Ac} (h : Fq D B t0 fb I X T wr) (hb : t0 + I ≤ 1000000) : Calls Tryz.prog 13 #[.pointer (some ⟨fb, 0, none⟩)] wr fun e w1 => ∃ a n c, e = .returned (imV X (.slice a n c)) ∧ Hid (Calls Tryz.prog 9 #[imV X (.slice a n c)] w1 fun e w2 => ∃ fg, e = .returned (.tuple #[.pointer (some ⟨fg, 0, none⟩), .int .i64 0]) ∧ Hid (Nw wr w2 ∧ Fq D (fun k => wr.heap.size ≤ k ∧ k < w2.heap.size) t0 fg I X [] w2)) := by
  have ht := h.tot
  refine Calls.mono (fq_image h hb) (fun e w1 hh => ?_)
  obtain ⟨a, n, c, l, e1, e2, e3, e4⟩ := hh
  refine ⟨a, n, c, e1, ?_⟩
  refine Calls.mono (load_any X l a n c e3 e4.symm e2.r (fun y hy => wf_ndw h.wf (by omega) (by rw [← e3]; exact List.mem_map_of_mem hy))) (fun e w2 hh => ?_)
  rcases hh with ⟨h1, _⟩ | ⟨_, fg, mb, rfl, L, k1, k2, k3⟩
  · exact absurd h.wf h1
  · have s1 := e2.1.size
    have s2 := h.n.size
    exact ⟨fg, rfl, e2.1.trans k2, mb, none, L, k1, fun k hk => ⟨by have := k3 k hk; omega, k1.lt k hk⟩, (h.n.trans e2.1).trans k2, fun k hk => ⟨by omega, hk.2⟩, h.wf, ht, Nat.zero_le _⟩
theorem on_clone {T : List Ac} (h : Fq D B t0 fb I X T wr) (hb : t0 + I ≤ 1000000) : Calls Tryz.prog 17 #[.pointer (some ⟨fb, 0, none⟩)] wr fun e w2 => ∃ fg, e = .returned (.pointer (some ⟨fg, 0, none⟩)) ∧ Hid (Nw wr w2 ∧ Fq D (fun k => wr.heap.size ≤ k ∧ k < w2.heap.size) t0 fg I X [] w2) := by
  have ht := h.tot
  refine Calls.mono (clone_any h hb) (fun e w2 hh => ?_)
  obtain ⟨fg, e1, ⟨mb, ot, L, k1, k2, k3, k4, k5, _, _⟩, k6⟩ := hh
  exact ⟨fg, e1, k6, mb, ot, L, k1, k2, k3, k4, k5, ht, Nat.zero_le _⟩
theorem on_trace (h : Fq D B t0 fb I X [] wr) : Calls Tryz.prog 16 #[.pointer (some ⟨fb, 0, none⟩)] wr fun e w1 => ∃ a c, e = .returned (.slice a 0 c) ∧ Hid (Nw wr w1) := by
  obtain ⟨mb, ot, L, k1, _⟩ := h
  refine Calls.mono (trace_any k1 (by simp)) (fun e w1 hh => ?_)
  obtain ⟨a, c, og, e1, _, e2, _⟩ := hh
  exact ⟨a, c, e1, e2⟩
/-- The four, and the image that was. -/
theorem on_four {T : List Ac} {fg fh fk : Nat} {w2 w3 w4 w5 w6 : World} (hf : Fq D B t0 fb I X T wr) (n2 : Nw wr w2) (hg : Fq D (fun k => wr.heap.size ≤ k ∧ k < w2.heap.size) t0 fg I X [] w2) (n3 : Nw w2 w3) (hh : Fq D (fun k => w2.heap.size ≤ k ∧ k < w3.heap.size) t0 fh I X [] w3) (n4 : Nw w3 w4) (hk : Fq D (fun k => w3.heap.size ≤ k ∧ k < w4.heap.size) t0 fk I X [] w4) (n5 : Nw w4 w5) (n6 : Nw w5 w6) :
    G4 D t0 (fun k => w5.heap.size ≤ k ∧ k < w6.heap.size) ⟨fb, X, I⟩ ⟨fg, X, I⟩ ⟨fh, X, I⟩ ⟨fk, X, I⟩ w6 := by
  have n46 := n5.trans n6
  have n36 := n4.trans n46
  have n26 := n3.trans n36
  have s2 := n2.size
  have s3 := n3.size
  have s4 := n4.size
  have s5 := n5.size
  have s6 := n6.size
  have hB : ∀ k, B k → k < wr.heap.size := fun k hk => by obtain ⟨_, _, _, _, _, _, h4, _⟩ := hf; exact (h4 k hk).2
  refine ⟨B, _, _, _, T, [], [], [], hf.nw (n2.trans n26), hg.nw n26, hh.nw n36, hk.nw n46, fun k h1 h2 => ?_, fun k h1 h2 => ?_, fun k h1 h2 => ?_, fun k h1 h2 => ?_, fun k h1 h2 => ?_, fun k h1 h2 => ?_, fun k h1 => ⟨by omega, fun h2 => ?_, fun h2 => ?_, fun h2 => ?_, fun h2 => ?_⟩⟩
  · have := hB k h1; omega
  · have := hB k h1; omega
  · have := hB k h1; omega
  · omega
  · omega
  · omega
  · have := hB k h2; omega
  · omega
  · omega
  · omega
/-- How the second loop stands. -/
def On2 (D : World) (t0 N fb fg fh fk : Nat) (M : Nat → Prop) (X : Im) (ops : List Oq) (a : Option Addr) (n c nb I : Nat) (wr : World) : Prop := ∃ Y, Y = (ops.take I).foldl (fun X o => (opR X o).X) X ∧ G4 D t0 M ⟨fg, Y, N + I⟩ ⟨fh, Y, N + I⟩ ⟨fb, X, N⟩ ⟨fk, X, N⟩ wr ∧ ImM M X a n c wr ∧ M nb ∧ wr.heap[nb]? = some (.cells (ciC X (.slice a n c)) 24)
theorem g4c {b c d : FsR} {fa J : Nat} {Y : Im} {R : Rs} (h : G4 D t0 M ⟨fa, Y, J⟩ b c d wr) (hb : t0 + J ≤ 1000000) (ho : OqR o wr) (hR : opR Y o = R) : Calls Tryz.prog 12 #[.pointer (some ⟨fa, 0, none⟩), .agg (opC o)] wr fun e w1 => e = .returned (.tuple #[.int .i64 R.n, .int .i64 R.e]) ∧ Hid (G4 D t0 M ⟨fa, R.X, J + 1⟩ b c d w1 ∧ Fr (fun k => ¬ M k) wr w1) := by
  have hc := g4_calls (a := ⟨fa, Y, J⟩) h hb ho
  simp only [hR] at hc
  refine Calls.mono hc (fun e w1 hh => ?_)
  obtain ⟨x, y, e1, e2⟩ := hh
  obtain ⟨ex, ey, k1⟩ := e2.out
  exact ⟨by rw [e1, ex, ey], k1⟩
theorem on2_step {fg fh fk n c nb : Nat} {a : Option Addr} {ops : List Oq} {y : Oq} (h : On2 D t0 N fb fg fh fk M X ops a n c nb I wr) (hI : ops[I]? = some y) (hb : t0 + N + I ≤ 1000000) (ho : ∀ U, Nw D U → OqR y U) : ∃ R : Rs, Calls Tryz.prog 12 #[.pointer (some ⟨fg, 0, none⟩), .agg (opC y)] wr fun e w1 => e = .returned (.tuple #[.int .i64 R.n, .int .i64 R.e]) ∧ Hid (Nw D w1 ∧ Calls Tryz.prog 12 #[.pointer (some ⟨fh, 0, none⟩), .agg (opC y)] w1 fun e w2 => e = .returned (.tuple #[.int .i64 R.n, .int .i64 R.e]) ∧ Hid (On2 D t0 N fb fg fh fk M X ops a n c nb (I + 1) w2)) := by
  obtain ⟨Y, hY, h1, h2, h3, h4⟩ := h
  obtain ⟨R, hR⟩ : ∃ R, opR Y y = R := ⟨_, rfl⟩
  have hY' : R.X = (ops.take (I + 1)).foldl (fun X o => (opR X o).X) X := by
    rw [List.take_add_one, hI, ← hR, hY]
    simp
  clear hY
  refine ⟨R, Calls.mono (g4c h1 (by omega) (ho _ h1.n) hR) (fun e w1 hh => ?_)⟩
  obtain ⟨e1, e2⟩ := hh
  obtain ⟨k1, k2⟩ := e2.out
  refine ⟨e1, k1.n, Calls.mono (g4c k1.swap (by omega) (ho _ k1.n) hR) (fun e w2 hh => ?_)⟩
  obtain ⟨f1, f2⟩ := hh
  obtain ⟨m1, m2⟩ := f2.out
  exact ⟨f1, R.X, hY', m1.swap, (h2.kept k2 (fun k hk => hk)).kept m2 (fun k hk => hk), h3, m2.heap (k2.heap h4 (fun h => h h3)) (fun h => h h3)⟩
end Go.Proofs.YtcogkhcfpgelhabGreat

namespace Go.Proofs.YtcogkhcfpgelhabGreat
open Go.RowKit
set_option linter.unusedVariables false
set_option maxRecDepth 100000
variable {w w' : World} {X : Im} {y : Oq}
/-! ### VfsTrace: a call that was done, done again -/
/-- The call that an act says. -/
def agO (a : Ac) (y : Oq) : Oq := ⟨a.op, false, a.dir, a.name, a.node, a.too, a.other, y.tgt, y.mt, a.pl, a.n, y.b, y.bs, 0, 0, 0, ⟨none, 0, 0⟩⟩
structure Ag (X : Im) (y : Oq) (R : Rs) : Prop where
  bad : R.e ≠ 0 → R.X = X ∧ R.acts = []
  good : R.e = 0 → ∃ a, R.acts = [a] ∧ opR X (agO a y) = R ∧ (R.n = 0 ∨ R.n = a.node) ∧ (a.op = 5 → a.n = (y.b.length : Int)) ∧ OqW (agO a y)
theorem i64_zero : I64 0 := i64_of (by omega) (by omega)
theorem ag_add (hX : WF X) (hy : OqW y) (k : Int) (tgt : Tx) (hk : ∀ a : Ac, a.op = k → opR X (agO a y) = addR X k a.dir a.name k y.mt tgt) : Ag X y (addR X k y.dir y.name k y.mt tgt) ∨ k = 5 := by
  by_cases h5 : k = 5
  · exact .inr h5
  refine .inl ?_
  have hn := hX.x1
  have hn2 := hX.x2
  by_cases h : addE (hOf X) (qOf X.l) X.l.length y.dir y.name k y.mt tgt = 0
  · have e : addR X k y.dir y.name k y.mt tgt = ⟨X.next, 0, { X with next := X.next + 1, l := putE (X.l ++ [⟨X.next, k, y.mt, [], tgt, []⟩]) y.dir y.name X.next }, [⟨k, y.dir, y.name, X.next, 0, [], 0, 0⟩]⟩ := by unfold addR; rw [if_pos h]
    refine ⟨fun h0 => absurd (by rw [e]) h0, fun _ => ⟨_, by rw [e], hk _ rfl, .inr (by rw [e]), fun h => absurd h h5, ?_⟩⟩
    exact { hy with n64 := i64_of (by show _ ≤ X.next; omega) (by show X.next ≤ _; omega), t64 := i64_zero, p64 := i64_zero, ol := by simp [agO] }
  · have e : addR X k y.dir y.name k y.mt tgt = ⟨0, addE (hOf X) (qOf X.l) X.l.length y.dir y.name k y.mt tgt, X, []⟩ := by unfold addR; rw [if_neg h]
    refine ⟨fun _ => by rw [e]; exact ⟨rfl, rfl⟩, fun h0 => absurd (by rw [e] at h0; exact h0) h⟩
theorem ag_lnk (hX : WF X) (hy : OqW y) (hk : ∀ a : Ac, a.op = 4 → opR X (agO a y) = lnkR X a.dir a.name a.node) : Ag X y (lnkR X y.dir y.name y.node) := by
  by_cases h : lnkE (qOf X.l) y.dir y.name y.node = 0
  · have e : lnkR X y.dir y.name y.node = ⟨0, 0, { X with l := putE X.l y.dir y.name y.node }, [⟨4, y.dir, y.name, y.node, 0, [], 0, 0⟩]⟩ := by unfold lnkR; rw [if_pos h]
    refine ⟨fun h0 => absurd (by rw [e]) h0, fun _ => ⟨_, by rw [e], hk _ rfl, .inl (by rw [e]), fun h => absurd h (by simp), ?_⟩⟩
    exact { hy with t64 := i64_zero, p64 := i64_zero, ol := by simp [agO] }
  · have e : lnkR X y.dir y.name y.node = ⟨0, lnkE (qOf X.l) y.dir y.name y.node, X, []⟩ := by unfold lnkR; rw [if_neg h]
    refine ⟨fun _ => by rw [e]; exact ⟨rfl, rfl⟩, fun h0 => absurd (by rw [e] at h0; exact h0) h⟩
theorem ag_wr (hX : WF X) (hy : OqW y) (hk : ∀ a : Ac, a.op = 5 → opR X (agO a y) = wrR X a.node a.pl y.b) : Ag X y (wrR X y.node y.pl y.b) := by
  by_cases h : wrE (hOf X) (qOf X.l) y.node y.pl y.b = 0
  · have e : wrR X y.node y.pl y.b = ⟨0, 0, { X with l := datR X.l y.node (fun l => wrD l y.pl.toNat y.b) }, [⟨5, 0, [], y.node, 0, [], y.pl, y.b.length⟩]⟩ := by unfold wrR; rw [if_pos h]
    refine ⟨fun h0 => absurd (by rw [e]) h0, fun _ => ⟨_, by rw [e], hk _ rfl, .inl (by rw [e]), fun _ => rfl, ?_⟩⟩
    exact { hy with d64 := i64_zero, t64 := i64_zero, nl := by simp [agO], ol := by simp [agO] }
  · have e : wrR X y.node y.pl y.b = ⟨0, wrE (hOf X) (qOf X.l) y.node y.pl y.b, X, []⟩ := by unfold wrR; rw [if_neg h]
    refine ⟨fun _ => by rw [e]; exact ⟨rfl, rfl⟩, fun h0 => absurd (by rw [e] at h0; exact h0) h⟩
theorem ag_rsz (hX : WF X) (hy : OqW y) (hk : ∀ a : Ac, a.op = 6 → opR X (agO a y) = rszR X a.node a.n) : Ag X y (rszR X y.node y.n) := by
  by_cases h : rszE (hOf X) (qOf X.l) y.node y.n = 0
  · have e : rszR X y.node y.n = ⟨0, 0, { X with l := datR X.l y.node (fun l => rszD l y.n.toNat) }, [⟨6, 0, [], y.node, 0, [], 0, y.n⟩]⟩ := by unfold rszR; rw [if_pos h]
    refine ⟨fun h0 => absurd (by rw [e]) h0, fun _ => ⟨_, by rw [e], hk _ rfl, .inl (by rw [e]), fun h => absurd h (by simp), ?_⟩⟩
    exact { hy with d64 := i64_zero, t64 := i64_zero, p64 := i64_zero, nl := by simp [agO], ol := by simp [agO] }
  · have e : rszR X y.node y.n = ⟨0, rszE (hOf X) (qOf X.l) y.node y.n, X, []⟩ := by unfold rszR; rw [if_neg h]
    refine ⟨fun _ => by rw [e]; exact ⟨rfl, rfl⟩, fun h0 => absurd (by rw [e] at h0; exact h0) h⟩
theorem ag_ch (hX : WF X) (hy : OqW y) (hk : ∀ a : Ac, a.op = 10 → opR X (agO a y) = chR X a.node y.mt) : Ag X y (chR X y.node y.mt) := by
  by_cases h : chE (qOf X.l) y.node y.mt = 0
  · have e : chR X y.node y.mt = ⟨0, 0, { X with l := updL X.l y.node (fun x => { x with mt := y.mt }) }, [⟨10, 0, [], y.node, 0, [], 0, 0⟩]⟩ := by unfold chR; rw [if_pos h]
    refine ⟨fun h0 => absurd (by rw [e]) h0, fun _ => ⟨_, by rw [e], hk _ rfl, .inl (by rw [e]), fun h => absurd h (by simp), ?_⟩⟩
    exact { hy with d64 := i64_zero, t64 := i64_zero, p64 := i64_zero, nl := by simp [agO], ol := by simp [agO] }
  · have e : chR X y.node y.mt = ⟨0, chE (qOf X.l) y.node y.mt, X, []⟩ := by unfold chR; rw [if_neg h]
    refine ⟨fun _ => by rw [e]; exact ⟨rfl, rfl⟩, fun h0 => absurd (by rw [e] at h0; exact h0) h⟩
theorem fnd_i64 (hX : WF X) (d : Int) (s : Tx) : I64 (fndQ (qOf X.l) d s).1 := by
  unfold fndQ
  split
  · exact i64_zero
  · split
    · exact i64_zero
    · rename_i n hn
      cases hq : qOf X.l d with
      | none => rw [hq] at hn; cases hn
      | some p =>
        rw [hq] at hn
        obtain ⟨x, hg, hm, _, rfl⟩ := qOf_some hq
        obtain ⟨xn, hgn, _, h1, h2, h3, _⟩ := wf_entOk hX hg hn
        have := hX.x2
        exact i64_of (by omega) (by omega)
theorem ent_i64 (hX : WF X) (d : Int) (s : Tx) : I64 (entX X.l d s) := by
  unfold entX
  cases hg : get X.l d with
  | none => exact i64_zero
  | some x =>
    cases he : entL x.ents s with
    | none => simp only [Option.bind_some, he]; exact i64_zero
    | some n =>
      obtain ⟨xn, hgn, _, h1, h2, h3, _⟩ := wf_entOk hX hg he
      have := hX.x2
      simp only [Option.bind_some, he, Option.getD_some]
      exact i64_of (by omega) (by omega)
theorem ag_rem (hX : WF X) (hy : OqW y) (k : Int) (h5 : k ≠ 5) (b : Bool) (hk : ∀ a : Ac, a.op = k → opR X (agO a y) = remR X k a.dir a.name b) : Ag X y (remR X k y.dir y.name b) := by
  by_cases h : remE (qOf X.l) y.dir y.name b = 0
  · have e : remR X k y.dir y.name b = ⟨0, 0, { X with l := leaL X.l y.dir y.name (fndQ (qOf X.l) y.dir y.name).1 }, [⟨k, y.dir, y.name, (fndQ (qOf X.l) y.dir y.name).1, 0, [], 0, 0⟩]⟩ := by unfold remR; rw [if_pos h]
    have hf := fnd_i64 hX y.dir y.name
    clear h
    generalize hn : (fndQ (qOf X.l) y.dir y.name).1 = n at *
    refine ⟨fun h0 => absurd (by rw [e]) h0, fun _ => ⟨⟨k, y.dir, y.name, n, 0, [], 0, 0⟩, by rw [e], hk _ rfl, .inl (by rw [e]), fun h => absurd h h5, ?_⟩⟩
    exact { hy with n64 := hf, t64 := i64_zero, p64 := i64_zero, ol := by simp [agO] }
  · have e : remR X k y.dir y.name b = ⟨0, remE (qOf X.l) y.dir y.name b, X, []⟩ := by unfold remR; rw [if_neg h]
    refine ⟨fun _ => by rw [e]; exact ⟨rfl, rfl⟩, fun h0 => absurd (by rw [e] at h0; exact h0) h⟩
theorem ag_rn (hX : WF X) (hy : OqW y) (hk : ∀ a : Ac, a.op = 9 → opR X (agO a y) = rnR X a.dir a.name a.too a.other) : Ag X y (rnR X y.dir y.name y.too y.other) := by
  by_cases h : renE X.l y.dir y.name y.too y.other = 0
  · have e : rnR X y.dir y.name y.too y.other = ⟨0, 0, { X with l := renR X.l y.dir y.name y.too y.other }, [⟨9, y.dir, y.name, entX X.l y.dir y.name, y.too, y.other, 0, 0⟩]⟩ := by unfold rnR; rw [if_pos h]
    refine ⟨fun h0 => absurd (by rw [e]) h0, fun _ => ⟨_, by rw [e], hk _ rfl, .inl (by rw [e]), fun h => absurd h (by simp), ?_⟩⟩
    exact { hy with n64 := ent_i64 hX _ _, p64 := i64_zero }
  · have e : rnR X y.dir y.name y.too y.other = ⟨0, renE X.l y.dir y.name y.too y.other, X, []⟩ := by unfold rnR; rw [if_neg h]
    refine ⟨fun _ => by rw [e]; exact ⟨rfl, rfl⟩, fun h0 => absurd (by rw [e] at h0; exact h0) h⟩
/-- A call that was done, done again on the same image, comes to the same. -/
theorem ag_any (hX : WF X) (hy : OqW y) (h1 : 1 ≤ y.kind) (h10 : y.kind ≤ 10) : Ag X y (opR X y) := by
  have hc : y.kind = 1 ∨ y.kind = 2 ∨ y.kind = 3 ∨ y.kind = 4 ∨ y.kind = 5 ∨ y.kind = 6 ∨ y.kind = 7 ∨ y.kind = 8 ∨ y.kind = 9 ∨ y.kind = 10 := by omega
  rcases hc with h | h | h | h | h | h | h | h | h | h
  · have e : opR X y = addR X 1 y.dir y.name 1 y.mt [] := by unfold opR; simp [h]
    rw [e]; exact (ag_add hX hy 1 [] (fun a ha => by unfold opR; simp [agO, ha])).resolve_right (by decide)
  · have e : opR X y = addR X 2 y.dir y.name 2 y.mt [] := by unfold opR; simp [h]
    rw [e]; exact (ag_add hX hy 2 [] (fun a ha => by unfold opR; simp [agO, ha])).resolve_right (by decide)
  · have e : opR X y = addR X 3 y.dir y.name 3 y.mt y.tgt := by unfold opR; simp [h]
    rw [e]; exact (ag_add hX hy 3 y.tgt (fun a ha => by unfold opR; simp [agO, ha])).resolve_right (by decide)
  · have e : opR X y = lnkR X y.dir y.name y.node := by unfold opR; simp [h]
    rw [e]; exact ag_lnk hX hy (fun a ha => by unfold opR; simp [agO, ha])
  · have e : opR X y = wrR X y.node y.pl y.b := by unfold opR; simp [h]
    rw [e]; exact ag_wr hX hy (fun a ha => by unfold opR; simp [agO, ha])
  · have e : opR X y = rszR X y.node y.n := by unfold opR; simp [h]
    rw [e]; exact ag_rsz hX hy (fun a ha => by unfold opR; simp [agO, ha])
  · have e : opR X y = remR X 7 y.dir y.name false := by unfold opR; simp [h]
    rw [e]; exact ag_rem hX hy 7 (by decide) false (fun a ha => by unfold opR; simp [agO, ha])
  · have e : opR X y = remR X 8 y.dir y.name true := by unfold opR; simp [h]
    rw [e]; exact ag_rem hX hy 8 (by decide) true (fun a ha => by unfold opR; simp [agO, ha])
  · have e : opR X y = rnR X y.dir y.name y.too y.other := by unfold opR; simp [h]
    rw [e]; exact ag_rn hX hy (fun a ha => by unfold opR; simp [agO, ha])
  · have e : opR X y = chR X y.node y.mt := by unfold opR; simp [h]
    rw [e]; exact ag_ch hX hy (fun a ha => by unfold opR; simp [agO, ha])
/-- What only looks leaves the image. -/
theorem opR_looks (X : Im) (y : Oq) (h : y.kind < 1 ∨ 10 < y.kind) : (opR X y).X = X ∧ (opR X y).acts = [] := by
  have n1 : ¬ y.kind = 1 := by omega
  have n2 : ¬ y.kind = 2 := by omega
  have n3 : ¬ y.kind = 3 := by omega
  have n4 : ¬ y.kind = 4 := by omega
  have n5 : ¬ y.kind = 5 := by omega
  have n6 : ¬ y.kind = 6 := by omega
  have n7 : ¬ y.kind = 7 := by omega
  have n8 : ¬ y.kind = 8 := by omega
  have n9 : ¬ y.kind = 9 := by omega
  have n10 : ¬ y.kind = 10 := by omega
  unfold opR
  simp only [if_neg n1, if_neg n2, if_neg n3, if_neg n4, if_neg n5, if_neg n6, if_neg n7, if_neg n8, if_neg n9, if_neg n10]
  by_cases h11 : y.kind = 11
  · rw [if_pos h11]; exact ⟨rfl, rfl⟩
  rw [if_neg h11]
  by_cases h12 : y.kind = 12
  · rw [if_pos h12]; exact ⟨rfl, rfl⟩
  rw [if_neg h12]
  by_cases h13 : y.kind = 13
  · rw [if_pos h13]; exact ⟨rfl, rfl⟩
  rw [if_neg h13]
  by_cases h14 : y.kind = 14
  · rw [if_pos h14]; exact ⟨rfl, rfl⟩
  rw [if_neg h14]
  exact ⟨rfl, rfl⟩
end Go.Proofs.YtcogkhcfpgelhabGreat

namespace Go.Proofs.YtcogkhcfpgelhabGreat
open Go.RowKit
set_option linter.unusedVariables false
set_option maxRecDepth 100000
variable {D w w' wr w1 V W : World} {X Y : Im} {o y : Oq} {t0 fb fg I J : Nat} {B C M : Nat → Prop} {T : List Ac}
/-! ### VfsTrace: two file systems beside each other, and blocks that neither has -/
theorem Fq.le (h : Fq D B t0 fb I X T wr) (hI : I ≤ J) : Fq D B t0 fb J X T wr := by
  obtain ⟨mb, ot, L, h1, h2, h3, h4, h5, h6, h7⟩ := h
  exact ⟨mb, ot, L, h1, h2, h3, h4, h5, by omega, by omega⟩
theorem Fq.in (h : Fq D B t0 fb I X T wr) : ∀ k, B k → D.heap.size ≤ k ∧ k < wr.heap.size := by obtain ⟨mb, ot, L, h1, h2, h3, h4, h5⟩ := h; exact h4
theorem Fq.acts (h : Fq D B t0 fb I X T wr) : T.length ≤ I := by obtain ⟨mb, ot, L, h1, h2, h3, h4, h5, h6, h7⟩ := h; exact h7
def Tr (D : World) (t0 fb fg I J : Nat) (M : Nat → Prop) (X Y : Im) (T : List Ac) (wr : World) : Prop := ∃ A B T', Fq D A t0 fb I X T wr ∧ Fq D B t0 fg J Y T' wr ∧ (∀ k, A k → ¬ B k) ∧ ∀ k, M k → k < wr.heap.size ∧ ¬ A k ∧ ¬ B k
theorem Tr.nw (h : Tr D t0 fb fg I J M X Y T wr) (f : Nw wr w') : Tr D t0 fb fg I J M X Y T w' := by
  obtain ⟨A, B, T', h1, h2, h3, h4⟩ := h
  have := f.size
  exact ⟨A, B, T', h1.nw f, h2.nw f, h3, fun k hk => ⟨by have := (h4 k hk).1; omega, (h4 k hk).2⟩⟩
theorem Tr.n (h : Tr D t0 fb fg I J M X Y T wr) : Nw D wr := by obtain ⟨A, B, T', h1, _⟩ := h; exact h1.n
theorem Tr.wf (h : Tr D t0 fb fg I J M X Y T wr) : WF X ∧ totE X.l ≤ t0 + I := by obtain ⟨A, B, T', h1, _⟩ := h; exact ⟨h1.wf, h1.tot⟩
theorem Tr.acts (h : Tr D t0 fb fg I J M X Y T wr) : T.length ≤ I := by obtain ⟨A, B, T', h1, _⟩ := h; exact h1.acts
theorem Tr.none (h : Tr D t0 fb fg I J M X Y T wr) (hJ : J ≤ I) : Tr D t0 fb fg I I (fun _ => False) X Y T wr := by
  obtain ⟨A, B, T', h1, h2, h3, h4⟩ := h
  exact ⟨A, B, T', h1, h2.le hJ, h3, fun k hk => hk.elim⟩
/-- A block more that neither has. -/
theorem Tr.more (h : Tr D t0 fb fg I J M X Y T wr) (f : Nw wr w') (g : Nat) (hg : wr.heap.size ≤ g ∧ g < w'.heap.size) : Tr D t0 fb fg I J (fun k => M k ∨ k = g) X Y T w' := by
  obtain ⟨A, B, T', h1, h2, h3, h4⟩ := h.nw f
  obtain ⟨A0, B0, T0, k1, k2, k3, k4⟩ := h
  obtain ⟨A, B, T', h1, h2, h3, h4⟩ := (show Tr D t0 fb fg I J M X Y T w' from ⟨A0, B0, T0, k1.nw f, k2.nw f, k3, fun k hk => ⟨by have := (k4 k hk).1; have := f.size; omega, (k4 k hk).2⟩⟩)
  refine ⟨A0, B0, T0, k1.nw f, k2.nw f, k3, fun k hk => ?_⟩
  rcases hk with hk | rfl
  · exact ⟨by have := (k4 k hk).1; have := f.size; omega, (k4 k hk).2⟩
  · exact ⟨hg.2, fun ha => by have := (k1.in _ ha).2; omega, fun hb => by have := (k2.in _ hb).2; omega⟩
/-- A call on the first one. -/
theorem tr_f (h : Tr D t0 fb fg I J M X Y T wr) (hb : t0 + I ≤ 1000000) (ho : OqR y wr) {R : Rs} (hR : opR X y = R) : Calls Tryz.prog 12 #[.pointer (some ⟨fb, 0, none⟩), .agg (opC y)] wr fun e w1 => e = .returned (.tuple #[.int .i64 R.n, .int .i64 R.e]) ∧ Hid (Tr D t0 fb fg (I + 1) J M R.X Y (T ++ R.acts) w1 ∧ Fr (fun k => ¬ M k) wr w1) := by
  obtain ⟨A, B, T', h1, h2, h3, h4⟩ := h
  subst hR
  refine Calls.mono (fq_calls h1 hb ho) (fun e w1 hh => ?_)
  obtain ⟨x, z, e1, e2⟩ := hh
  obtain ⟨ex, ey, k1, k2⟩ := e2.out
  have s := k2.size
  refine ⟨by rw [e1, ex, ey], ⟨Gr A wr w1, B, T', k1, h2.kept k2 h3 (fun k hk => (h1.in k hk).1), Gr.apart (fun k hk => (h2.in k hk).2) h3, fun k hk => ?_⟩, k2.mono (fun k hk => .inl (fun hm => (h4 k hm).2.1 hk))⟩
  have hm := h4 k hk
  refine ⟨by omega, fun hg => ?_, hm.2.2⟩
  rcases hg with hg | hg
  · exact hm.2.1 hg
  · omega
/-- A call on the second one. -/
theorem tr_g (h : Tr D t0 fb fg I J M X Y T wr) (hb : t0 + J ≤ 1000000) (ho : OqR y wr) {R : Rs} (hR : opR Y y = R) : Calls Tryz.prog 12 #[.pointer (some ⟨fg, 0, none⟩), .agg (opC y)] wr fun e w1 => e = .returned (.tuple #[.int .i64 R.n, .int .i64 R.e]) ∧ Hid (Tr D t0 fb fg I (J + 1) M X R.X T w1 ∧ Fr (fun k => ¬ M k) wr w1) := by
  obtain ⟨A, B, T', h1, h2, h3, h4⟩ := h
  subst hR
  refine Calls.mono (fq_calls h2 hb ho) (fun e w1 hh => ?_)
  obtain ⟨x, z, e1, e2⟩ := hh
  obtain ⟨ex, ey, k1, k2⟩ := e2.out
  have s := k2.size
  have h3' : ∀ k, B k → ¬ A k := fun k hb ha => h3 k ha hb
  refine ⟨by rw [e1, ex, ey], ⟨A, Gr B wr w1, _, h1.kept k2 h3' (fun k hk => (h2.in k hk).1), k1, fun k ha hg => Gr.apart (fun k hk => (h1.in k hk).2) h3' k hg ha, fun k hk => ?_⟩, k2.mono (fun k hk => .inl (fun hm => (h4 k hm).2.2 hk))⟩
  have hm := h4 k hk
  refine ⟨by omega, hm.2.1, fun hg => ?_⟩
  rcases hg with hg | hg
  · exact hm.2.2 hg
  · omega
/-- What Trace hands out. -/
def TlO (a : Option Addr) (T : List Ac) (w : World) : Prop := ∀ i x, T[i]? = some x → ∃ g o, a = some ⟨g, o, none⟩ ∧ w.rangeAt g (o + i * 8) (RAc.enc x)
theorem tr_trace (h : Tr D t0 fb fg I J M X Y T wr) (hI : I ≤ 1000000) : Calls Tryz.prog 16 #[.pointer (some ⟨fb, 0, none⟩)] wr fun e w1 => ∃ a c, e = .returned (.slice a T.length c) ∧ Hid (Nw wr w1 ∧ TlO a T w1 ∧ T.length ≤ c ∧ c < 9223372036854775808) := by
  have hT := h.acts
  obtain ⟨A, B, T', ⟨mb, ot, L, k1, _⟩, _⟩ := h
  refine Calls.mono (trace_any k1 (by omega)) (fun e w1 hh => ?_)
  obtain ⟨a, c, og, e1, e2, e3, _⟩ := hh
  have hs := e2.slr racOk
  refine ⟨a, c, e1, e3, fun i x hx => ?_, ?_⟩
  · obtain ⟨g, o, ea, _, hc⟩ := hs.at i x hx
    exact ⟨g, o, ea, fun j v hv => hc j v hv⟩
  · rcases hs with ⟨a', ea, hl⟩ | ⟨g, o, c', _, ea, h3, h4, _⟩
    · injection ea with _ _ ec
      rw [hl, ec]; exact ⟨Nat.le_refl _, by omega⟩
    · injection ea with _ _ ec
      rw [ec]; exact ⟨h3, h4⟩
theorem tr_image (h : Tr D t0 fb fg I J M X X T wr) (hb : t0 + I ≤ 1000000) (hJ : t0 + J ≤ 1000000) : Calls Tryz.prog 13 #[.pointer (some ⟨fb, 0, none⟩)] wr fun e w1 => ∃ a n c, e = .returned (imV X (.slice a n c)) ∧ Hid (Calls Tryz.prog 13 #[.pointer (some ⟨fg, 0, none⟩)] w1 fun e w2 => ∃ a' n' c', e = .returned (imV X (.slice a' n' c')) ∧ Hid (Calls Tryz.prog 14 #[imV X (.slice a n c), imV X (.slice a' n' c')] w2 fun e w3 => e = .returned (.bool true) ∧ Hid (Nw wr w3))) := by
  obtain ⟨A, B, T', h1, h2, h3, h4⟩ := h
  refine Calls.mono (fq_image h1 hb) (fun e w1 hh => ?_)
  obtain ⟨a, n, c, e1, e2, e3⟩ := cpo_m hh
  refine ⟨a, n, c, e1, Calls.mono (fq_image (h2.nw e3) hJ) (fun e w2 hh => ?_)⟩
  obtain ⟨a', n', c', f1, f2, f3⟩ := cpo_m hh
  have ht := h1.tot
  exact ⟨a', n', c', f1, Calls.mono (same_m h1.wf (by omega) (e2.nw f3) f2) (fun e w3 hh => ⟨hh.1, (e3.trans f3).trans hh.2⟩)⟩
/-- The two as they are made. -/
theorem tr_made {T' : List Ac} (h1 : Fq D B t0 fb 0 X T wr) (n1 : Nw wr w') (h2 : Fq D (fun k => wr.heap.size ≤ k ∧ k < w'.heap.size) t0 fg 0 Y T' w') : Tr D t0 fb fg 0 0 (fun _ => False) X Y T w' := by
  exact ⟨B, _, T', h1.nw n1, h2, fun k hk h => by have := (h1.in k hk).2; omega, fun k hk => hk.elim⟩
theorem tr_at {a : Option Addr} {n c : Nat} {l : List Oq} {w : World} (h : InO (.slice a n c) l w) (hn : n = l.length) (I : Nat) (hI : I < n) : ∃ g o y, a = some ⟨g, o, none⟩ ∧ l[I]? = some y ∧ (∀ U, Nw w U → OqR y U) ∧ ∃ CL : List Value, opC y = CL.toArray ∧ (∀ U, Nw w U → U.rangeAt g (o + I * 20) CL) ∧ (Tryz.prog.info? 40).map (·.size) = some CL.length := by
  have hl : I < l.length := by omega
  obtain ⟨g, o, e, hc⟩ := h.at I hl
  exact ⟨g, o, l[I], e, List.getElem?_eq_getElem hl, fun U hU => (h.nw hU).2 _ (List.getElem_mem hl), (opC l[I]).toList, rfl, fun U hU j v hv => hU.cell (hc j v (by simpa using hv)), by kernel_rfl⟩
/-- A row of cells in a block of its own. -/
theorem row_put (w : World) (zs cs : Array Value) (t : TypeId) : Nw w ((w.alloc (.cells zs t)).setRow w.heap.size cs) ∧ ((w.alloc (.cells zs t)).setRow w.heap.size cs).heap[w.heap.size]? = some (.cells cs t) ∧ ((w.alloc (.cells zs t)).setRow w.heap.size cs).heap.size = w.heap.size + 1 :=
  ⟨((Fr.refl _ _).alloc _).setRow _ _ (.inr (Nat.le_refl _)), setRow_heap _ w.heap.size _ _ t _ (nh w _), by simp [World.setRow]⟩
end Go.Proofs.YtcogkhcfpgelhabGreat

namespace Go.Proofs.YtcogkhcfpgelhabGreat
open Go.RowKit
set_option linter.unusedVariables false
set_option maxRecDepth 100000
variable {w w' V : World} {X : Im}
/-! ### loaded, and which image: one for each -/
open Classical in
noncomputable def ldI (X : Im) : Im := if WF X then X else rtX
theorem ldI_wf (h : WF X) : ldI X = X := by unfold ldI; rw [if_pos h]
theorem ldI_not (h : ¬ WF X) : ldI X = rtX := by unfold ldI; rw [if_neg h]
def LdP (X : Im) (w : World) (e : Ending) (w' : World) : Prop := ∃ fb mb X', e = .returned (.pointer (some ⟨fb, 0, none⟩)) ∧ (ldX X X' ∧ X' = ldI X) ∧ Blt X' w fb mb w'
set_option maxHeartbeats 4000000 in
theorem loaded_one (X : Im) (l : List Nq) (a : Option Addr) (n c : Nat) (hl : l.map Nq.x = X.l) (hn : n = l.length) (hm : ImR (.slice a n c) l w) (hw : ∀ y ∈ l, NdW y.x) (hn9 : n ≤ 1000000000) :
    Calls Tryz.prog 15 #[imV X (.slice a n c)] w (LdP X w) := by
  obtain ⟨P, hP⟩ : ∃ P : Ending → World → Prop, P = LdP X w := ⟨_, rfl⟩
  rw [← hP]
  obtain ⟨V, hV⟩ : ∃ V, V = w.alloc (.cells (ciC X (.slice a n c)) 24) := ⟨_, rfl⟩
  have hN : Nw w V := by rw [hV]; exact (Fr.refl _ _).alloc _
  have hc : ∀ j v, (ciC X (.slice a n c))[j]? = some v → V.cell? ⟨w.heap.size, j, none⟩ = some v := fun j v hv => by rw [hV]; exact (rc (nh w _) j v hv).1
  have c0 := hc 0 _ rfl
  have c1 := hc 1 _ rfl
  have c2 := hc 2 _ rfl
  have c3 := hc 3 _ rfl
  have HC : Hid (Calls Tryz.prog 10 #[imV X (.slice a n c)] V fun e w1 => ∃ a1 n1 c1, e = .returned (imV X (.slice a1 n1 c1)) ∧ Hid (Calls Tryz.prog 9 #[imV X (.slice a1 n1 c1)] w1 fun e w2 => ∃ (p : Option Addr) (er : Int), e = .returned (.tuple #[.pointer p, .int .i64 er]) ∧ Hid ((p = none ∧ er = 3 ∧ ¬ WF X ∧ Nw w w2) ∨ (er = 0 ∧ ∃ fb, p = some ⟨fb, 0, none⟩ ∧ P (.returned (.pointer (some ⟨fb, 0, none⟩))) w2)))) := by
    refine Calls.mono (copy_any X l a n c hl hn (hm.nw hN) hw hn9) (fun e w1 hh => ?_)
    obtain ⟨a1, n1, c1, l1, e1, e2, e3, e4⟩ := hh
    refine ⟨a1, n1, c1, e1, ?_⟩
    have hw1 : ∀ y ∈ l1, NdW y.x := fun y hy => by
      have : y.x ∈ l.map Nq.x := by rw [hl, ← e3]; exact List.mem_map_of_mem hy
      obtain ⟨z, hz, hzy⟩ := List.mem_map.1 this
      rw [← hzy]; exact hw z hz
    refine Calls.mono (load_any X l1 a1 n1 c1 e3 e4.symm e2.r hw1) (fun e w2 hh => ?_)
    have n1' : Nw w w1 := hN.trans e2.1
    rcases hh with ⟨h1, rfl, h2⟩ | ⟨h1, fb, mb, rfl, h2⟩
    · exact ⟨none, 3, rfl, .inl ⟨rfl, rfl, h1, n1'.trans h2⟩⟩
    · refine ⟨_, 0, rfl, .inr ⟨rfl, fb, rfl, ?_⟩⟩
      rw [hP]
      obtain ⟨L, k1, k2, k3⟩ := h2
      have := n1'.size
      exact ⟨fb, mb, X, rfl, ⟨⟨h1, Nat.le_refl _⟩, (ldI_wf h1).symm⟩, L, k1, n1'.trans k2, fun k hk => by have := k3 k hk; omega⟩
  have HN : Hid (∀ V2, ¬ WF X → Nw w V2 → Calls Tryz.prog 24 #[.int .i64 9, .int .i64 99] V2 fun e w' => ∃ fb, e = .returned (.tuple #[.pointer (some ⟨fb, 0, none⟩), .int .i64 0]) ∧ Hid (P (.returned (.pointer (some ⟨fb, 0, none⟩))) w')) := fun V2 hnw h2 => by
    refine Calls.mono (new_any 9 99 V2) (fun e w' hh => ?_)
    rcases hh with ⟨h1, _⟩ | ⟨_, fb, mb, rfl, L, k1, k2, k3⟩
    · exact absurd h1 (by decide)
    · refine ⟨fb, rfl, ?_⟩
      show P _ _
      rw [hP]
      have := h2.size
      rw [rtX_q] at k1 k3
      exact ⟨fb, mb, rtX, rfl, ⟨⟨rtX_wf, by show (0 : Nat) ≤ _; exact Nat.zero_le _⟩, (ldI_not hnw).symm⟩, L, k1, h2.trans k2, fun k hk => by have := k3 k hk; omega⟩
  have HV := tHid hV
  clear hc hV hP hl hn hm hw hn9 hN
  go_enter Tryz.func15, Tryz.ntmps15
  go_upto_region 1 with fail
  rw [← HV.out]
  clear HV
  go_upto_region 2 with (first
    | (go_at_call 10; with_reducible refine HC.out.mono ?_; rintro e w1 ⟨a1, n1, c1, rfl, H1⟩)
    | (go_at_call 9; with_reducible refine H1.out.mono ?_; rintro e w2 ⟨p, er, rfl, H2⟩))
  clear HC H1
  rcases H2.out with ⟨rfl, rfl, h3, h4⟩ | ⟨rfl, fb, rfl, h3⟩
  · have H5 := tHid (HN.out w2 h3 h4)
    clear HN H2 h3 h4
    go_wp2_with (first | (go_at_call 24; with_reducible refine H5.out.mono ?_; rintro e w3 ⟨fb, rfl, H6⟩))
    exact H6.out
  · have H3 := tHid h3
    clear HN H2 h3
    go_wp2_with fail
    exact H3.out
end Go.Proofs.YtcogkhcfpgelhabGreat
