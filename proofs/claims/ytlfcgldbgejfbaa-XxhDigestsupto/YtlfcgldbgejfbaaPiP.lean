import Derived.Test.YtlfcgldbgejfbaaRows
import Derived.Test.YtlfcgldbgejfbaaPiB
import Derived.Test.YtlfcgldbgejfbaaXxX
import Derived.Deep.Matrix
import Derived.Deep.Grids
import Derived.JoinedCond
namespace Go.Proofs.Ytlfcgldbgejfbaa
namespace xxhPieces
open Go.ChangeShapes Go.WideShapes Go.ChangeAt Go.RowKit Go.Deep
set_option linter.unusedVariables false
theorem u64_of {n : Int} (h : (Lit.int .u64 n).wf = true) : ∃ o : BitVec 64, n = (o.toNat : Int) := by
  have hb : 0 ≤ n ∧ n < 18446744073709551616 := by
    simp [Lit.wf, IntKind.bits, IntKind.signed, IntKind.min, IntKind.max] at h
    omega
  exact ⟨BitVec.ofNat 64 n.toNat, by rw [BitVec.toNat_ofNat]; omega⟩
/-- How much a reading weighs, at the least. -/
theorem bulk_pos {H : Type} (d : DataW H) : 1 ≤ Rows.uptoBulk d := by
  cases d with
  | lit l => cases l <;> simp [Rows.uptoBulk]
  | _ => simp [Rows.uptoBulk]
theorem bulk_length {H : Type} (l : List (DataW H)) : l.length ≤ Rows.uptoBulkAll l := by
  induction l with
  | nil => simp [Rows.uptoBulkAll]
  | cons x r ih => have := bulk_pos x; simp only [Rows.uptoBulkAll, List.length_cons]; omega
theorem bulk_app {H : Type} (l r : List (DataW H)) : Rows.uptoBulkAll (l ++ r) = Rows.uptoBulkAll l + Rows.uptoBulkAll r := by
  induction l with
  | nil => simp [Rows.uptoBulkAll]
  | cons x l ih => simp only [List.cons_append, Rows.uptoBulkAll, ih]; omega
theorem bulk_cat {H : Type} (P : Nat → List By) (D : Nat → DataW H) (n : Nat) (h : ∀ r, r < n → (P r).length ≤ Rows.uptoBulk (D r)) : (cat P n).length ≤ Rows.uptoBulkAll ((List.range n).map D) := by
  induction n with
  | zero => simp [cat]
  | succ n ih =>
    have := ih (fun r hr => h r (by omega))
    have := h n (by omega)
    simp only [cat, List.length_append, List.range_succ, List.map_append, bulk_app, List.map_cons, List.map_nil, Rows.uptoBulkAll]
    omega
def bys (Z : List Int) (L : Nat) : List By := (Z.take L).map (fun n => BitVec.ofNat 8 n.toNat)
/-- A row of bytes that came in. -/
theorem rowB {W : World} {A : Option Addr} {L C : Nat} {Z : List Int} (hl : L ≤ C) (hm : C ≤ maxLen) (hz : Z.length = C) (hw : ∀ n ∈ Z, (Lit.int .u8 n).wf = true) (h0 : A = none → C = 0) (hc : ∀ a', A = some a' → 0 ≤ a'.block ∧ ∀ c, c < C → W.cell? (a'.add c) = some (.int .u8 (Z.getD c 0))) :
    Old W (.slice A L C) (bys Z L) ∧ (bys Z L).length = L := by
  have hlen : (bys Z L).length = L := by simp [bys]; omega
  refine ⟨?_, hlen⟩
  by_cases h : C = 0
  · subst h
    obtain rfl : L = 0 := by omega
    exact .inl ⟨A, rfl, by simp [bys]⟩
  · cases A with
    | none => exact absurd (h0 rfl) h
    | some x =>
      obtain ⟨_, hc⟩ := hc x rfl
      obtain ⟨b, off, spot⟩ := x
      have hc0 := hc 0 (by omega)
      have hspot : spot = none := by simpa [Addr.add] using World.cell?_spot hc0
      subst hspot
      have hb : b < W.heap.size := by have := World.block_lt_of_cell? _ _ hc0; simpa [Addr.add] using this
      refine .inr ⟨b, by omega, off, C, by rw [hlen], by rw [hlen]; exact hl, by unfold maxLen at hm; omega, ?_⟩
      intro j hj
      rw [hlen] at hj
      have hcj := hc j (by omega)
      rw [add_plain] at hcj
      rw [hcj]
      simp only [bys, List.getElem_map, List.getElem_take]
      have hmem : Z.getD j 0 ∈ Z := by
        rw [List.getD_eq_getElem?_getD, List.getElem?_eq_getElem (show j < Z.length by omega)]; simp
      rw [byte_of (hw _ hmem)]
      simp [List.getD_eq_getElem?_getD, List.getElem?_eq_getElem (show j < Z.length by omega)]
theorem cells24 : Try.prog.cellsOf 24 = 1 := by kernel_rfl
theorem cells4 : Try.prog.cellsOf 4 = 1 := by kernel_rfl
/-- The pieces that came in. -/
theorem openedP {H : Type} {enc : TypeId × Value → H} {W : World} {a : Option Addr} {len cap : Nat} {d : DataW H} {p : List MemPlace} (h : DataW.Trod enc Try.prog W 0 (fun _ => true) true 44 (.slice a len cap) d p) :
    ∃ (g o : Nat) (aP : Nat → Option Addr) (cP : Nat → Nat) (P : Nat → List By), (0 < len → a = some ⟨g, o, none⟩) ∧ (∀ i, i < len → ∀ V, Nw W V → V.cell? ⟨g, o + i, none⟩ = some (.slice (aP i) (P i).length (cP i))) ∧
      (∀ i, i < len → Old W (.slice (aP i) (P i).length (cP i)) (P i)) ∧ len ≤ Rows.uptoBulk d ∧ (cat P len).length ≤ Rows.uptoBulk d := by
  obtain ⟨fuel, hf⟩ := h
  rcases open_int_rows (k := .u8) Try.underlying44 Try.underlying24 Try.underlying5 cells24 cells5 hf with ⟨hcs, _⟩ | ⟨x, l, c, A, L, C, Z, hcs, _, hl, hm, hd, hc⟩
  · simp [Value.cells] at hcs
    obtain ⟨rfl, rfl, rfl⟩ := hcs
    exact ⟨0, 0, fun _ => none, fun _ => 0, fun _ => [], fun h => by omega, fun i hi => by omega, fun i hi => by omega, by omega, by simp [cat]⟩
  · simp [Value.cells] at hcs
    obtain ⟨rfl, rfl, rfl⟩ := hcs
    obtain ⟨b, off, spot⟩ := x
    have hsp : 0 < len → spot = none := by
      intro h0
      simpa [Addr.add] using World.cell?_spot (hc 0 (by omega)).1
    have hrow : ∀ i, i < len → Old W (.slice (A i) (L i) (C i)) (bys (Z i) (L i)) ∧ (bys (Z i) (L i)).length = L i := by
      intro i hi
      obtain ⟨h1, h2, h3, h4, h5, h6, h7⟩ := hc i (by omega)
      exact rowB h2 h3 h4 h5 h6 h7
    have hdd := (Prod.ext_iff.1 hd).1
    simp only at hdd
    refine ⟨b, off, A, C, fun i => bys (Z i) (L i), fun h => by rw [hsp h], ?_, ?_, ?_, ?_⟩
    · intro i hi V hV
      have h1 := (hc i (by omega)).1
      rw [hsp (by omega), add_plain] at h1
      show _ = some (Value.slice (A i) (bys (Z i) (L i)).length (C i))
      rw [(hrow i hi).2]
      exact hV.cellv h1 (fun h => h)
    · intro i hi
      show Old W (.slice (A i) (bys (Z i) (L i)).length (C i)) _
      rw [(hrow i hi).2]
      exact (hrow i hi).1
    · rw [hdd]
      have := bulk_length (H := H) ((List.range len).map fun r => intRow .u8 (A r) (L r) (Z r))
      simp only [List.length_map, List.length_range] at this
      simp only [Rows.uptoBulk]
      omega
    · rw [hdd]
      have := bulk_cat (H := H) (fun i => bys (Z i) (L i)) (fun r => intRow .u8 (A r) (L r) (Z r)) len (by
        intro r hr
        show (bys (Z r) (L r)).length ≤ _
        rw [(hrow r hr).2]
        obtain ⟨h1, h2, h3, h4, h5, h6, h7⟩ := hc r (by omega)
        unfold intRow
        split
        · have := h6 (by assumption); omega
        · have := bulk_length (H := H) (lits .u8 ((Z r).take (L r)))
          simp only [lits, List.length_map, List.length_take] at this
          simp only [Rows.uptoBulk, lits]
          omega)
      simp only [Rows.uptoBulk]
      omega
/-- What is asked. -/
theorem openedQ {H : Type} {enc : TypeId × Value → H} {W : World} {a : Option Addr} {len cap : Nat} {d : DataW H} {p : List MemPlace} (h : DataW.Trod enc Try.prog W 0 (fun _ => true) true 45 (.slice a len cap) d p) :
    ∃ (g o : Nat) (Q : Nat → Bool), (0 < len → a = some ⟨g, o, none⟩) ∧ (∀ i, i < len → ∀ V, Nw W V → V.cell? ⟨g, o + i, none⟩ = some (.bool (Q i))) ∧ len ≤ Rows.uptoBulk d := by
  obtain ⟨fuel, hf⟩ := h
  rcases open_bools Try.underlying45 Try.underlying4 cells4 hf with ⟨hcs, _⟩ | ⟨x, l, c, Q, hcs, _, hl, hm, hd, hc⟩
  · simp [Value.cells] at hcs
    obtain ⟨rfl, rfl, rfl⟩ := hcs
    exact ⟨0, 0, fun _ => false, fun h => by omega, fun i hi => by omega, by omega⟩
  · simp [Value.cells] at hcs
    obtain ⟨rfl, rfl, rfl⟩ := hcs
    obtain ⟨b, off, spot⟩ := x
    have hsp : 0 < len → spot = none := by
      intro h0
      simpa [Addr.add] using World.cell?_spot (hc 0 (by omega))
    have hdd := (Prod.ext_iff.1 hd).1
    simp only [boolRow] at hdd
    refine ⟨b, off, Q, fun h => by rw [hsp h], ?_, ?_⟩
    · intro i hi V hV
      have h1 := hc i (by omega)
      rw [hsp (by omega), add_plain] at h1
      exact hV.cellv h1 (fun h => h)
    · rw [hdd]
      have := bulk_length (H := H) ((List.range len).map fun r => .lit (.bool (Q r)))
      simp only [List.length_map, List.length_range] at this
      simp only [Rows.uptoBulk]
      omega
theorem contract (H : Type) (enc : TypeId × Value → H) (W : World) (base : Nat) (args : Array Value) (ds gs : List (DataW H)) (before : List MemPlace)
    (hval : ∀ (j : Nat) t v, Try.f5.params[j]? = some t → args[j]? = some v → Value.okWide Try.prog W .any base t v)
    (hW : DataW.Whole enc Try.prog Try.f5.params.toList Rows.xxhPiecesSpec.vars false W args.toList ds gs before) (hk : Rows.uptoSmall H (ds ++ gs) = true) :
    Calls Try.prog 5 args W fun e W' => ∃ v, e = .returned v ∧ Rows.xxhPiecesSpec.post enc Try.prog Try.f5 false true false false W args v W' := by
  have hW' := hW
  obtain ⟨p, q, hA0, hV, rfl, hfz, hnd⟩ := hW
  have hA : DataW.TrodAll enc Try.prog W 0 (fun _ => true) true Try.f5.params.toList args.toList ds p := hA0
  rw [Try.params5] at hA hval
  obtain ⟨v0, vs0, d0, ds0, p0, q0, hargs, rfl, rfl, h0, r0⟩ := trodAll_cons hA
  obtain ⟨v1, vs1, d1, ds1, p1, q1, rfl, rfl, rfl, h1, r1⟩ := trodAll_cons r0
  obtain ⟨v2, vs2, d2, ds2, p2, q2, rfl, rfl, rfl, h2, r2⟩ := trodAll_cons r1
  obtain ⟨rfl, rfl, rfl⟩ := trodAll_nil r2
  obtain rfl : args = #[v0, v1, v2] := by cases args; simp_all
  obtain ⟨rfl, rfl⟩ := trodVars_none hV
  have hbulk : Rows.uptoBulkAll ([d0, d1, d2] ++ []) ≤ 1048576 := of_decide_eq_true hk
  simp only [List.append_nil, Rows.uptoBulkAll] at hbulk
  obtain ⟨a0, rfl, rfl, rfl, w0⟩ := open_int Try.underlying23 (hval 0 23 v0 rfl rfl) h0
  obtain ⟨a1, len1, cap1, rfl⟩ := okWide_slice Try.underlying44 (hval 1 44 v1 rfl rfl)
  obtain ⟨a2, len2, cap2, rfl⟩ := okWide_slice Try.underlying45 (hval 2 45 v2 rfl rfl)
  have lt1 : ∀ x ∈ p1, x.block < W.heap.size := by obtain ⟨m, hm⟩ := h1; exact DataW.trod_lt m _ _ _ hm
  have lt2 : ∀ x ∈ p2, x.block < W.heap.size := by obtain ⟨m, hm⟩ := h2; exact DataW.trod_lt m _ _ _ hm
  obtain ⟨g, o, aP, cP, P, k1, k2, k3, k4, k5⟩ := openedP h1
  obtain ⟨g2, o2, Q, j1, j2, j3⟩ := openedQ h2
  obtain ⟨t, rfl⟩ := u64_of w0
  clear hA0
  refine (walk t a1 a2 g o len1 cap1 g2 o2 len2 cap2 aP cP P Q W k1 j1 k2 k3 j2 (by omega) (by omega) (by omega)).mono fun e W' ⟨he, hN⟩ => ?_
  subst he
  have bel : Below W.heap.size W W' := Fr.below (Below.refl _ _) hN (Nat.le_refl _) (fun i h => h.elim)
  exact ⟨_, rfl, _, _, _, [], _, [], hW', trodAll_mk1 (shut_bool Try.underlying4 _), (trodAll_cons_mk (shut_int Try.underlying23 w0) (trodAll_cons_mk (Below.trod laidOut (by kernel_rfl) (of_decide_eq_true (by kernel_rfl)) h1 bel lt1) (trodAll_cons_mk (Below.trod laidOut (by kernel_rfl) (of_decide_eq_true (by kernel_rfl)) h2 bel lt2) trodAll_mk0))), rfl, bel.frame _, fun h => by cases h⟩
set_option maxRecDepth 100000 in
theorem lifted (os : Os) (started : os.Started) (H : Type) (enc : TypeId × Value → H) (F : Stop.Interp) :
    ReturnsInHanded {} Try.checked os 5 .any ((Rows.OpenSpec.upto Rows.xxhPiecesSpec).pre6 enc Try.prog Try.f5 Rows.xxhPiecesUptoRow.domain false) (((Rows.OpenSpec.upto Rows.xxhPiecesSpec).at F).post enc Try.prog Try.f5 false true false false) := by
  refine returnsInHanded_of_cond (C := Try.checked) (s := Rows.OpenSpec.upto Rows.xxhPiecesSpec) (k := Rows.uptoSmall) rfl own started (by kernel_rfl) Try.func5
    (OpenSpec.witness (enc := enc) (C := Try.checked) (s := Rows.OpenSpec.upto Rows.xxhPiecesSpec) (k := Rows.uptoSmall) rfl false ⟨#[], #[.int .u64 0, .slice none 0 0, .slice none 0 0], []⟩ 8 (by kernel_rfl) (by kernel_rfl) (by kernel_rfl)
      (x := ([.lit (.int .u64 0), .nil, .nil], [], [])) (by kernel_rfl) rfl (by kernel_rfl)) ?_
  intro W base args ds gs before hval hW _ hk _
  exact contract H enc W base args ds gs before hval hW hk
theorem over : Rows.xxhPiecesUptoRow.holds Try.pinned (Rows.OpenSpec.upto Rows.xxhPiecesSpec) :=
  OpenClaim.holds_of_cond 5 Try.f5 rfl rfl rfl rfl rfl rfl rfl ⟨rfl, rfl, rfl, rfl, rfl⟩ rfl rfl rfl rfl rfl (by kernel_rfl) Try.func5 (by kernel_rfl)
    (of_decide_eq_true (by kernel_rfl)) (by unfold Func.isWrapper; first | (rw [if_pos (by decide +kernel)]; kernel_rfl) | (rw [if_neg (by decide +kernel)]; exact ⟨rfl, rfl⟩))
    (fun os started H enc _ F => lifted os started H enc F)
end xxhPieces
/-- THE STATEMENT -/
theorem xxhPieces_holds : Rows.XxhPiecesUptoSaid :=
  xxhPieces.over
#print axioms xxhPieces_holds
end Go.Proofs.Ytlfcgldbgejfbaa
