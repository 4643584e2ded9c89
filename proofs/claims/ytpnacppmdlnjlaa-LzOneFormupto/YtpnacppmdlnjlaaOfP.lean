import Derived.Test.YtpnacppmdlnjlaaRows
import Derived.Test.YtpnacppmdlnjlaaOfD
import Derived.Test.YtpnacppmdlnjlaaSqOp
import Derived.Deep.CondSized
namespace Go.Proofs.Ytpnacppmdlnjlaa
namespace lzOneForm
open Go.ChangeShapes Go.WideShapes Go.ChangeAt Go.RowKit Go.Deep
set_option linter.unusedVariables false
theorem cellsO : Try.prog.cellsOf 47 = 4 := by kernel_rfl
theorem cellsS : Try.prog.cellsOf 31 = 1 := by kernel_rfl
theorem bulk_pos {H : Type} (d : DataW H) : 1 ≤ Rows.uptoBulk d := by
  cases d with
  | lit v => cases v <;> simp [Rows.uptoBulk]
  | _ => simp [Rows.uptoBulk]
theorem bulk_length {H : Type} (l : List (DataW H)) : l.length ≤ Rows.uptoBulkAll l := by
  induction l with
  | nil => simp [Rows.uptoBulkAll]
  | cons x r ih => have := bulk_pos x; simp only [Rows.uptoBulkAll, List.length_cons]; omega
set_option maxHeartbeats 4000000 in
theorem walk (w : World) (aB al aA : Option Addr) (cB cl cA : Nat) (B : List By) (l : List Si) (ahead : List By) (most : Int) (hB : Old w (.slice aB B.length cB) B) (hl : OldS w (.slice al l.length cl) l) (hp : ∀ s ∈ l, s.p.length ≤ 140737488351232) (ha : Old w (.slice aA ahead.length cA) ahead) (hbl : B.length ≤ 100000000) (hal : ahead.length ≤ 100000000) :
    Calls Try.prog 7 #[.agg #[.slice aB B.length cB, .slice al l.length cl, .slice aA ahead.length cA, .int .i64 most]] w fun e w' => e = .returned (.bool true) ∧ Nw w w' := by
  by_cases hc : CanB l ∧ tot l ≤ 4194304
  · have TL := tail_ok w _ l hl hp hc.1 hc.2
    rcases parse_why B with ⟨_, ms, p, hmk, hpa, hcs⟩ | ⟨x, y, hpa, hy⟩
    · obtain ⟨R, ye, hR⟩ : ∃ R ye, plR (sqs ms p) ahead most = (R, ye) := ⟨_, _, rfl⟩
      by_cases ht : tot (sqs ms p) ≤ 4194304
      · have hM : mkR (sqs ms p) = (B, 0) := by rw [mkR_ok (canB_sqs ms p hcs) ht, mkI_sqs ms p hcs, ← hmk]
        exact walk_ok0_ok w aB al aA _ cB _ cl _ cA most R.length ye (B = B) rfl (head_ok w _ _ B ahead most hB ha hbl hal ms p hmk hpa hcs R ye hR B 0 hM) TL
      · have hM : mkR (sqs ms p) = ([], 2) := mkR_long (canB_sqs ms p hcs) ht
        exact walk_ok2_ok w aB al aA _ cB _ cl _ cA most R.length ye ([] = B) (head_ok w _ _ B ahead most hB ha hbl hal ms p hmk hpa hcs R ye hR [] 2 hM) TL
    · exact walk_no_ok w aB al aA _ cB _ cl _ cA most x y hy (head_no w _ B hB hbl x y hpa) TL
  · obtain ⟨z, hz, hz0⟩ : ∃ z, mkR l = ([], z) ∧ z ≠ 0 := by
      by_cases h1 : CanB l
      · exact ⟨2, mkR_long h1 (fun h2 => hc ⟨h1, h2⟩), by decide⟩
      · exact ⟨1, mkR_arg h1, by decide⟩
    have TL := tail_no w _ l hl hp z hz hz0
    rcases parse_why B with ⟨_, ms, p, hmk, hpa, hcs⟩ | ⟨x, y, hpa, hy⟩
    · obtain ⟨R, ye, hR⟩ : ∃ R ye, plR (sqs ms p) ahead most = (R, ye) := ⟨_, _, rfl⟩
      by_cases ht : tot (sqs ms p) ≤ 4194304
      · have hM : mkR (sqs ms p) = (B, 0) := by rw [mkR_ok (canB_sqs ms p hcs) ht, mkI_sqs ms p hcs, ← hmk]
        exact walk_ok0_no w aB al aA _ cB _ cl _ cA most R.length ye (B = B) rfl (head_ok w _ _ B ahead most hB ha hbl hal ms p hmk hpa hcs R ye hR B 0 hM) z hz0 TL
      · have hM : mkR (sqs ms p) = ([], 2) := mkR_long (canB_sqs ms p hcs) ht
        exact walk_ok2_no w aB al aA _ cB _ cl _ cA most R.length ye ([] = B) (head_ok w _ _ B ahead most hB ha hbl hal ms p hmk hpa hcs R ye hR [] 2 hM) z hz0 TL
    · exact walk_no_no w aB al aA _ cB _ cl _ cA most x y hy (head_no w _ B hB hbl x y hpa) z hz0 TL
theorem contract (H : Type) (enc : TypeId × Value → H) (W : World) (base : Nat) (args : Array Value) (ds gs : List (DataW H)) (before : List MemPlace)
    (hval : ∀ (j : Nat) t v, Try.f7.params[j]? = some t → args[j]? = some v → Value.okWide Try.prog W .any base t v)
    (hW : DataW.Whole enc Try.prog Try.f7.params.toList Rows.lzOneFormSpec.vars false W args.toList ds gs before) (hk : Rows.uptoSmall H (ds ++ gs) = true) (hsz : (DataW.weightsEach Try.prog (Try.f7.params.toList ++ (Rows.OpenSpec.upto Rows.lzOneFormSpec).bare.plain.varTypes Try.prog) (ds ++ gs)).all (· ≤ reachBytes) = true) :
    Calls Try.prog 7 args W fun e W' => ∃ v, e = .returned v ∧ Rows.lzOneFormSpec.post enc Try.prog Try.f7 false true false false W args v W' := by
  have hW' := hW
  obtain ⟨p, q, hA0, hV, rfl, hfz, hnd⟩ := hW
  have hA : DataW.TrodAll enc Try.prog W 0 (fun _ => true) true Try.f7.params.toList args.toList ds p := hA0
  rw [Try.params7] at hA hval hsz
  obtain ⟨v0, vs0, d0, ds0, p0, q0, hargs, rfl, rfl, h0, r0⟩ := trodAll_cons hA
  obtain ⟨rfl, rfl, rfl⟩ := trodAll_nil r0
  obtain rfl : args = #[v0] := by cases args; simp_all
  obtain ⟨rfl, rfl⟩ := trodVars_none hV
  have hbulk : Rows.uptoBulkAll ([d0] ++ []) ≤ 1048576 := of_decide_eq_true hk
  simp only [List.append_nil, Rows.uptoBulkAll] at hbulk
  obtain ⟨cs, rfl, hcs⟩ := okWide_struct Try.underlying47 (hval 0 47 v0 rfl rfl)
  have lt0 : ∀ x ∈ p0, x.block < W.heap.size := by obtain ⟨m, hm⟩ := h0; exact DataW.trod_lt m _ _ _ hm
  have h0' := h0
  obtain ⟨fuel, hf0⟩ := h0'
  obtain ⟨xs, k, hk', hxy, _, hxl, hf⟩ := DataW.trod_struct Try.underlying47 hf0
  rw [cellsO] at hcs
  obtain ⟨u0, u1, u2, u3, rfl⟩ : ∃ u0 u1 u2 u3, cs = #[u0, u1, u2, u3] := by
    obtain ⟨cl⟩ := cs
    match cl, hcs with
    | [u0, u1, u2, u3], _ => exact ⟨u0, u1, u2, u3, rfl⟩
  match xs, hxl with
  | [y0, y1, y2, y3], _ =>
    have g0 := hf 0 _ rfl
    have g1 := hf 1 _ rfl
    have g2 := hf 2 _ rfl
    have g3 := hf 3 _ rfl
    simp [Value.cells, cellsI, cellsB, cellsS] at g0 g1 g2 g3
    simp only [Prod.mk.injEq] at hxy
    obtain ⟨hd0, hp0⟩ := hxy
    obtain ⟨y01, y02⟩ := y0
    obtain ⟨y11, y12⟩ := y1
    obtain ⟨y21, y22⟩ := y2
    obtain ⟨y31, y32⟩ := y3
    obtain ⟨aB, lB, cB, rfl⟩ : ∃ xa xl xc, u0 = .slice xa xl xc := by
      rcases open_ints (k := .u8) Try.underlying22 Try.underlying5 cells5 g0 with ⟨hcs, _⟩ | ⟨x, l, c, zs, hcs, _⟩
      · exact ⟨none, 0, 0, by simpa using hcs⟩
      · exact ⟨some x, l, c, by simpa using hcs⟩
    obtain ⟨aL, lL, cL, rfl⟩ : ∃ xa xl xc, u1 = .slice xa xl xc := by
      rcases open_slice Try.underlying31 g1 with ⟨hcs, _⟩ | ⟨x, l, c, m, n, D, Pl, hcs, _⟩
      · exact ⟨none, 0, 0, by simpa using hcs⟩
      · exact ⟨some x, l, c, by simpa using hcs⟩
    obtain ⟨aA, lA, cA, rfl⟩ : ∃ xa xl xc, u2 = .slice xa xl xc := by
      rcases open_ints (k := .u8) Try.underlying22 Try.underlying5 cells5 g2 with ⟨hcs, _⟩ | ⟨x, l, c, zs, hcs, _⟩
      · exact ⟨none, 0, 0, by simpa using hcs⟩
      · exact ⟨some x, l, c, by simpa using hcs⟩
    obtain ⟨most, hmost, _, _⟩ := DataW.trod_int Try.underlying3 g3
    obtain rfl : u3 = .int .i64 most := by simpa using hmost
    obtain ⟨B, hB, hBl, hBd⟩ := openedB (enc := enc) (W := W) (a := aB) (len := lB) (cap := cB) (d := y01) (p := y02) ⟨k, by simpa [Value.cells] using g0⟩
    obtain ⟨ah, hA', hAl, hAd⟩ := openedB (enc := enc) (W := W) (a := aA) (len := lA) (cap := cA) (d := y21) (p := y22) ⟨k, by simpa [Value.cells] using g2⟩
    have hwt : ∀ n ∈ DataW.weights Try.prog 31 y11, n ≤ reachBytes := fun n hn => by
      have hm : n ∈ DataW.weights Try.prog 47 d0 := by
        rw [hd0]
        simp only [List.map_cons, List.map_nil, DataW.weights, Try.underlying47]
        exact DataW.weights_mem_each (j := 1) (t := 31) rfl rfl n hn
      have := List.all_eq_true.1 hsz n (DataW.weights_mem_each (j := 0) (t := 47) rfl rfl n hm)
      simpa using this
    obtain ⟨l, hll, hl, hpl⟩ := openedS (enc := enc) (W := W) (a := aL) (len := lL) (cap := cL) (d := y11) (p := y12) ⟨k, by simpa [Value.cells] using g1⟩ hwt
    rw [hd0] at hbulk
    simp only [List.map_cons, List.map_nil, Rows.uptoBulk, Rows.uptoBulkAll] at hbulk
    have hbig : ∀ {d : DataW H} {x : List By} {len : Nat}, x.length = len → (len = 0 ∨ ∃ e s, d = .slice e s ∧ e.length = len) → x.length ≤ Rows.uptoBulk d := by
      intro d x len hx hd
      rcases hd with hd | ⟨e, sp, rfl, he⟩
      · omega
      · have := bulk_length e
        simp only [Rows.uptoBulk]
        omega
    have hBb := hbig hBl hBd
    have hAb := hbig hAl hAd
    clear hA0
    subst hBl hAl hll
    refine (walk W aB aL aA cB cL cA B l ah most hB hl hpl hA' (by omega) (by omega)).mono fun e W' ⟨he, hN⟩ => ?_
    subst he
    have bel : Below W.heap.size W W' := Fr.below (Below.refl _ _) hN (Nat.le_refl _) (fun i h => h.elim)
    exact ⟨_, rfl, _, _, _, [], _, [], hW', trodAll_mk1 (shut_bool Try.underlying4 _), (trodAll_cons_mk (Below.trod laidOut (by kernel_rfl) (of_decide_eq_true (by kernel_rfl)) h0 bel lt0) trodAll_mk0), rfl, bel.frame _, fun h => by cases h⟩
set_option maxRecDepth 100000 in
theorem lifted (os : Os) (started : os.Started) (H : Type) (enc : TypeId × Value → H) (F : Stop.Interp) :
    ReturnsInHanded {} Try.checked os 7 .any ((Rows.OpenSpec.upto Rows.lzOneFormSpec).pre6 enc Try.prog Try.f7 Rows.lzOneFormUptoRow.domain false) (((Rows.OpenSpec.upto Rows.lzOneFormSpec).at F).post enc Try.prog Try.f7 false true false false) := by
  refine returnsInHanded_of_cond_sized (C := Try.checked) (s := Rows.OpenSpec.upto Rows.lzOneFormSpec) (k := Rows.uptoSmall) rfl own started (by kernel_rfl) Try.func7
    (OpenSpec.witness (enc := enc) (C := Try.checked) (s := Rows.OpenSpec.upto Rows.lzOneFormSpec) (k := Rows.uptoSmall) rfl false ⟨#[], #[.agg #[.slice none 0 0, .slice none 0 0, .slice none 0 0, .int .i64 0]], []⟩ 8 (by kernel_rfl) (by kernel_rfl) (by kernel_rfl)
      (x := ([.agg [.nil, .nil, .nil, .lit (.int .i64 0)]], [], [])) (by kernel_rfl) rfl (by kernel_rfl)) ?_
  intro W base args ds gs before hval hW _ hk hsz _
  exact contract H enc W base args ds gs before hval hW hk hsz
theorem over : Rows.lzOneFormUptoRow.holds Try.pinned (Rows.OpenSpec.upto Rows.lzOneFormSpec) :=
  OpenClaim.holds_of_cond 7 Try.f7 rfl rfl rfl rfl rfl rfl rfl ⟨rfl, rfl, rfl, rfl, rfl⟩ rfl rfl rfl rfl rfl (by kernel_rfl) Try.func7 (by kernel_rfl)
    (of_decide_eq_true (by kernel_rfl)) (by unfold Func.isWrapper; first | (rw [if_pos (by decide +kernel)]; kernel_rfl) | (rw [if_neg (by decide +kernel)]; exact ⟨rfl, rfl⟩))
    (fun os started H enc _ F => lifted os started H enc F)
end lzOneForm
/-- THE STATEMENT -/
theorem lzOneForm_holds : Rows.LzOneFormUptoSaid :=
  lzOneForm.over
#print axioms lzOneForm_holds
end Go.Proofs.Ytpnacppmdlnjlaa
