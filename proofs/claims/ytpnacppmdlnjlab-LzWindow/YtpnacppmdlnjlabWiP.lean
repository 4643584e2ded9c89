import Derived.Test.YtpnacppmdlnjlabRows
import Derived.Test.YtpnacppmdlnjlabWiC
import Derived.Test.YtpnacppmdlnjlabLzOp
namespace Go.Proofs.Ytpnacppmdlnjlab
theorem copyO (w : World) (x : Value) (l : List By) (hx : Old w x l) (hl : l.length ≤ 200000000000000) : ∃ g c W, Go.RowKit.Hid (∀ ty, (Builtin.append_ #[22, 22] ty #[.slice (some ⟨w.heap.size, 0, none⟩) 0 0, x]).run Try.prog (w.alloc (.cells #[] 5)) = .ok (.slice (some ⟨g, 0, none⟩) l.length c) W) ∧ Ow g (.slice (some ⟨g, 0, none⟩) l.length c) l W ∧ w.heap.size ≤ g ∧ Nw w W := by
  obtain ⟨v, g, W, hap, hO, hF, hg⟩ := app_any (w.alloc (.cells #[] 5)) w.heap.size _ [] (Ow.empty w) x l ((hx.nw ((Fr.refl _ _).alloc _)).mono (fun _ h => h.elim)) (by simp; omega)
  rw [List.nil_append] at hO
  have hO' := hO
  obtain ⟨xs, rfl, _⟩ := hO'
  refine ⟨g, xs.length, W, hap, hO, ?_, Fr.then ((Fr.refl _ _).alloc _) hF (fun i hi => .inr (by omega))⟩
  rcases hg with h | h
  · omega
  · simp at h; omega
theorem Ow.caps {g : Nat} {l : List By} {n c : Nat} {W : World} (h : Ow g (.slice (some ⟨g, 0, none⟩) n c) l W) : n ≤ c ∧ c < 9223372036854775808 := by
  obtain ⟨o, c', e0, hc1, hc2, hrd⟩ := h.slb
  injection e0 with e1 e2 e3
  subst e2 e3
  injection e1 with e1
  injection e1 with _ e1
  subst e1
  omega
namespace lzWindow
open Go.ChangeShapes Go.WideShapes Go.ChangeAt Go.RowKit Go.Deep
set_option linter.unusedVariables false
set_option maxHeartbeats 40000000 in
set_option maxRecDepth 100000 in
theorem walk_big (w : World) (ap aa af : Option Addr) (N cp A ca Fl cf : Nat) (hN : 4194304 < N) :
    Calls Try.prog 4 #[.slice ap N cp, .slice aa A ca, .slice af Fl cf] w fun e w' => e = .returned (.bool true) ∧ Nw w w' := by
  obtain ⟨P, hP⟩ : ∃ P : Ending → World → Prop, P = fun e w' => e = .returned (.bool true) ∧ Nw w w' := ⟨_, rfl⟩
  rw [← hP]
  have HP : Hid (P = fun e w' => e = .returned (.bool true) ∧ Nw w w') := hP
  clear hP
  have hz : (4194304 : Int) < (N : Int) := by omega
  go_enter Try.func4, Try.ntmps4
  go_wp2_with fail
  rw [HP.out]
  exact ⟨rfl, Fr.refl _ _⟩
theorem walk (w : World) (ap aa af : Option Addr) (cp ca cf : Nat) (p ahead far : List By) (hp : Old w (.slice ap p.length cp) p) (ha : Old w (.slice aa ahead.length ca) ahead) (hf : Old w (.slice af far.length cf) far) (hpl : p.length ≤ 140737488351232) (hal : ahead.length ≤ 140737488351232) (hfl : far.length ≤ 140737488351232) :
    Calls Try.prog 4 #[.slice ap p.length cp, .slice aa ahead.length ca, .slice af far.length cf] w fun e w' => e = .returned (.bool true) ∧ Nw w w' := by
  by_cases hlong : 4194304 < p.length
  · exact walk_big w ap aa af _ cp _ ca _ cf hlong
  obtain ⟨g1, c1, W1, HAP1, hO1, hg1, hN1⟩ := copyO w _ ahead ha (by omega)
  by_cases hs : ahead.length < 65535
  · obtain ⟨W2, hmk, hO2, hN2⟩ := madeW W1 (65535 - ahead.length) (by omega)
    have hl2 : (List.replicate (65535 - ahead.length) 0#8).length = 65535 - ahead.length := by simp
    obtain ⟨v3, gE, WE, HAP3, hO3, hF3, hg3⟩ := app_any W2 W1.heap.size _ _ hO2 _ ahead ((hO1.nw hN2).old.mono (fun _ h => h.elim)) (by simp; omega)
    have hNE : Nw w WE := Fr.then (hN1.trans hN2) hF3 (fun i hi => .inr (by have := hN1.size; omega))
    have hO3' := hO3
    obtain ⟨xs, rfl, _⟩ := hO3'
    have hEl : (List.replicate (65535 - ahead.length) 0#8 ++ ahead).length = 65535 := by simp; omega
    obtain ⟨hc1, hc2⟩ := hO3.caps
    obtain ⟨a4, c4, W4, H4, a5, c5, W5, H5, H6⟩ := win_chain w WE hNE _ _ p far _ hp hf (by omega) hfl gE _ hO3 (by omega) (by omega)
    exact walk_short w WE ap aa af p.length cp ahead.length ca _ far.length cf (by omega) hs hEl (by omega) (by omega) gE _ hc1 hc2 a4 a5 c4 c5 W4 W5 _ c1 W1 W2 HAP1 hmk HAP3 H4 H5 H6
  · obtain ⟨hc1, hc2⟩ := hO1.caps
    obtain ⟨a4, c4, W4, H4, a5, c5, W5, H5, H6⟩ := win_chain w W1 hN1 _ _ p far _ hp hf (by omega) hfl g1 _ hO1 (by omega) (by omega)
    by_cases he : ahead.length = 65535
    · exact walk_eq w W1 ap aa af p.length cp _ ca _ far.length cf (by omega) rfl he (by omega) (by omega) g1 _ hc1 hc2 a4 a5 c4 c5 W4 W5 HAP1 H4 H5 H6
    · exact walk_ne w W1 ap aa af p.length cp _ ca _ far.length cf (by omega) rfl (by omega) (by omega) (by omega) g1 _ hc1 hc2 a4 a5 c4 c5 W4 W5 HAP1 H4 H5 H6
set_option maxRecDepth 100000 in
theorem lifted (os : Os) (started : os.Started) (H : Type) (enc : TypeId × Value → H) :
    ReturnsInHanded {} Try.checked os 4 .any (Rows.lzWindowSpec.pre6 enc Try.prog Try.f4 Rows.lzWindowRow.domain false) (Rows.lzWindowSpec.post enc Try.prog Try.f4 false true false false) := by
  refine returnsInHanded_of_change_sized (C := Try.checked) own started (by kernel_rfl) Try.func4
    (ChangeSpec.witness6 (enc := enc) (C := Try.checked) false ⟨#[], #[.slice none 0 0, .slice none 0 0, .slice none 0 0], []⟩ 8 (by kernel_rfl) (by kernel_rfl) (by kernel_rfl) (by kernel_rfl)) ?_
  intro W base args ds gs before hval0 hW hcnd hsz0 _
  have hval : ∀ (j : Nat) t v, Try.f4.params[j]? = some t → args[j]? = some v → Value.okWide Try.prog W .any base t v := hval0
  have hW' := hW
  obtain ⟨p, q, hA0, hV, rfl, hfz, hnd⟩ := hW
  have hA : DataW.TrodAll enc Try.prog W 0 (fun _ => true) true Try.f4.params.toList args.toList ds p := hA0
  have hsz : (DataW.weightsEach Try.prog (Try.f4.params.toList ++ Rows.lzWindowSpec.plain.varTypes Try.prog) (ds ++ gs)).all (· ≤ reachBytes) = true := hsz0
  rw [Try.params4] at hA hval hsz
  obtain ⟨v0, vs0, d0, ds0, p0, q0, hargs, rfl, rfl, h0, r0⟩ := trodAll_cons hA
  obtain ⟨v1, vs1, d1, ds1, p1, q1, rfl, rfl, rfl, h1, r1⟩ := trodAll_cons r0
  obtain ⟨v2, vs2, d2, ds2, p2, q2, rfl, rfl, rfl, h2, r2⟩ := trodAll_cons r1
  obtain ⟨rfl, rfl, rfl⟩ := trodAll_nil r2
  obtain rfl : args = #[v0, v1, v2] := by cases args; simp_all
  obtain ⟨rfl, rfl⟩ := trodVars_none hV
  obtain ⟨a0, len0, cap0, rfl⟩ := okWide_slice Try.underlying22 (hval 0 22 v0 rfl rfl)
  obtain ⟨a1, len1, cap1, rfl⟩ := okWide_slice Try.underlying22 (hval 1 22 v1 rfl rfl)
  obtain ⟨a2, len2, cap2, rfl⟩ := okWide_slice Try.underlying22 (hval 2 22 v2 rfl rfl)
  have lt0 : ∀ x ∈ p0, x.block < W.heap.size := by obtain ⟨m, hm⟩ := h0; exact DataW.trod_lt m _ _ _ hm
  have lt1 : ∀ x ∈ p1, x.block < W.heap.size := by obtain ⟨m, hm⟩ := h1; exact DataW.trod_lt m _ _ _ hm
  have lt2 : ∀ x ∈ p2, x.block < W.heap.size := by obtain ⟨m, hm⟩ := h2; exact DataW.trod_lt m _ _ _ hm
  obtain ⟨l, hl, hll, hd⟩ := openedB h0
  obtain ⟨l', hl', hll', hd'⟩ := openedB h1
  obtain ⟨l'', hl'', hll'', hd''⟩ := openedB h2
  have hrb : reachBytes = 140737488351232 := by decide
  have hbig : l.length ≤ 140737488351232 := by
    rcases hd with hd | ⟨e, sp, rfl, he⟩
    · omega
    · have := sized_slice hsz (j := 0) (t := 22) rfl rfl Try.underlying22
      rw [bytes5] at this
      rw [hrb] at this
      omega
  have hbig' : l'.length ≤ 140737488351232 := by
    rcases hd' with hd' | ⟨e, sp, rfl, he⟩
    · omega
    · have := sized_slice hsz (j := 1) (t := 22) rfl rfl Try.underlying22
      rw [bytes5] at this
      rw [hrb] at this
      omega
  have hbig'' : l''.length ≤ 140737488351232 := by
    rcases hd'' with hd'' | ⟨e, sp, rfl, he⟩
    · omega
    · have := sized_slice hsz (j := 2) (t := 22) rfl rfl Try.underlying22
      rw [bytes5] at this
      rw [hrb] at this
      omega
  clear hA0 hval0
  subst hll hll' hll''
  refine (walk W a0 a1 a2 cap0 cap1 cap2 l l' l'' hl hl' hl'' hbig hbig' hbig'').mono fun e W' ⟨he, hN⟩ => ?_
  subst he
  have bel : Below W.heap.size W W' := Fr.below (Below.refl _ _) hN (Nat.le_refl _) (fun i h => h.elim)
  exact ⟨_, rfl, _, _, _, [], _, [], hW', trodAll_mk1 (shut_bool Try.underlying4 _), (trodAll_cons_mk (Below.trod laidOut (by kernel_rfl) (of_decide_eq_true (by kernel_rfl)) h0 bel lt0) (trodAll_cons_mk (Below.trod laidOut (by kernel_rfl) (of_decide_eq_true (by kernel_rfl)) h1 bel lt1) (trodAll_cons_mk (Below.trod laidOut (by kernel_rfl) (of_decide_eq_true (by kernel_rfl)) h2 bel lt2) trodAll_mk0))), rfl, bel.frame _, fun h => by cases h⟩

theorem over : Rows.lzWindowRow.holds Try.pinned (OpenSpec.ofChange Rows.lzWindowSpec) :=
  OpenClaim.holds_of_wide 4 Try.f4 rfl rfl rfl rfl rfl rfl rfl ⟨rfl, rfl, rfl, rfl, rfl⟩ rfl rfl rfl rfl rfl (by kernel_rfl) Try.func4 (by kernel_rfl)
    (of_decide_eq_true (by kernel_rfl)) (by unfold Func.isWrapper; first | (rw [if_pos (by decide +kernel)]; kernel_rfl) | (rw [if_neg (by decide +kernel)]; exact ⟨rfl, rfl⟩))
    (fun os started H enc _ => lifted os started H enc)
end lzWindow
/-- THE STATEMENT -/
theorem lzWindow_holds : Rows.LzWindowSaid :=
  lzWindow.over
#print axioms lzWindow_holds
end Go.Proofs.Ytpnacppmdlnjlab
