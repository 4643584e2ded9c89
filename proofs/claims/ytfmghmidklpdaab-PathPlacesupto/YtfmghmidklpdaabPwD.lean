import Derived.Test.YtfmghmidklpdaabPwB
import Derived.Test.YtfmghmidklpdaabPwC
namespace Go.Proofs.Ytfmghmidklpdaab
open Go.RowKit
set_option linter.unusedVariables false
theorem join_jn (ps : List Tx) : Lib.join ps [47] = jn ps := by
  induction ps with
  | nil => rfl
  | cons p r ih =>
    rw [Lib.join_cons]
    cases r with
    | nil => simp [Lib.joinTail, jn]
    | cons q r =>
      rw [Lib.join_cons] at ih
      rw [jn, ← ih]
      simp [Lib.joinTail]
theorem nw_of {w w' : World} (h : Below w.heap.size w w') : Nw w w' := ⟨h.os, h.tape, h.output, h.size, fun k hk _ => h.block k hk⟩
theorem sjoin_any (w : World) (v : Value) (ps : List Tx) (hv : SlR RS (fun _ => False) v ps w) (h0 : ps ≠ []) (hn : ps.length ≤ 256) (hj : tot ps ≤ 4097) :
    Calls Try.prog 12 #[v, .string ⟨#[47]⟩] w fun e w' => e = .returned (.string (mk (jn ps))) ∧ Nw w w' := by
  obtain ⟨a, c, rfl, k1, k2, _⟩ := hv.form
  have hlen : 0 < ps.length := List.length_pos_iff.2 h0
  obtain ⟨g, o, rfl, _, hc0⟩ := rs_at hv 0 hlen
  have hcells : ∀ (j : Nat) x, (ps.map mk)[j]? = some x → w.cell? ⟨g, o + j, none⟩ = some (.string x) := by
    intro j x hx
    rw [List.getElem?_map, Option.map_eq_some_iff] at hx
    obtain ⟨p, hp, rfl⟩ := hx
    obtain ⟨hj, hpe⟩ := List.getElem?_eq_some_iff.1 hp
    obtain ⟨g', o', e', _, hc⟩ := rs_at hv j hj
    injection e' with e'
    injection e' with e1 e2 _
    subst e1 e2
    rw [hc, hpe]
  have hmm : (ps.map mk).map (·.data.toList) = ps := by
    rw [List.map_map]
    conv => rhs; rw [← List.map_id ps]
    apply List.map_congr_left
    intro p _
    exact mk_data p
  have hlj : (jn ps).length ≤ 4096 := by
    cases ps with
    | nil => exact absurd rfl h0
    | cons p r => have := jn_length p r; omega
  have hsep : (⟨#[47]⟩ : ByteArray).data.toList = [47] := rfl
  have := shelfJoin g o c (ps.map mk) ⟨#[47]⟩ w hcells (World.block_lt_of_cell? _ _ hc0) (by rw [List.length_map]; omega) (by rw [List.length_map]; exact k1) (by rw [hmm, hsep, join_jn]; omega)
  rw [hmm, hsep, join_jn, List.length_map] at this
  exact this.mono (fun e w' ⟨h1, h2⟩ => ⟨h1, nw_of h2⟩)
set_option maxHeartbeats 4000000 in
set_option maxRecDepth 100000 in
theorem pjoin_any (w : World) (v : Value) (ps : List Tx) (hv : SlR RS (fun _ => False) v ps w) (hb : ∀ p ∈ ps, p.length ≤ 140737488351232) (hn : ps.length ≤ 17592186044416) :
    Calls Try.prog 5 #[v] w fun e w' => e = .returned (.tuple #[.string (mk (joinF ps).1), .int .i64 ((ftF ps : Nat) : Int)]) ∧ Nw w w' := by
  obtain ⟨P, hP⟩ : ∃ P : Ending → World → Prop, P = fun e w' => e = .returned (.tuple #[.string (mk (joinF ps).1), .int .i64 ((ftF ps : Nat) : Int)]) ∧ Nw w w' := ⟨_, rfl⟩
  rw [← hP]
  have HC : Hid (Calls Try.prog 11 #[v] w fun e w' => e = .returned (.int .i64 ((ftF ps : Nat) : Int)) ∧ Hid (Nw w w')) := fault_any w v ps hv hb hn
  by_cases h : ftF ps = 0
  · have HJ : Hid (∀ V, Nw w V → Calls Try.prog 12 #[v, .string ⟨#[47]⟩] V fun e w' => e = .returned (.string (mk (jn ps))) ∧ Hid (Nw w w')) := fun V hV => by
      obtain ⟨h1, h2, h3, h4⟩ := (ft_zero ps).1 h
      exact (sjoin_any V v ps (hv.nw hV) h1 h3 h4).mono (fun e w' ⟨k1, k2⟩ => ⟨k1, hV.trans k2⟩)
    have HF : Hid (∀ V, Nw w V → P (.returned (.tuple #[.string (mk (jn ps)), .int .i64 0])) V) := fun V hV => by
      rw [hP]
      refine ⟨?_, hV⟩
      unfold joinF
      rw [if_pos h, h]; rfl
    rw [h] at HC
    obtain ⟨a, c, rfl, k1, k2, _⟩ := hv.form
    clear hP hv hb h
    generalize mk (jn ps) = s at *
    generalize ps.length = N at *
    go_enter Try.func5, Try.ntmps5
    go_wp2_with (first
      | (go_at_call 11; with_reducible refine HC.out.mono ?_; rintro e w1 ⟨rfl, H1⟩)
      | (go_at_call 12; with_reducible refine (HJ.out _ H1.out).mono ?_; rintro e w2 ⟨rfl, H2⟩))
    exact HF.out _ H2.out
  · have HF : Hid (∀ V, Nw w V → P (.returned (.tuple #[.string ⟨#[]⟩, .int .i64 ((ftF ps : Nat) : Int)])) V) := fun V hV => by
      rw [hP]
      refine ⟨?_, hV⟩
      unfold joinF
      rw [if_neg h]; rfl
    have hne : (((ftF ps : Nat) : Int) == 0) = false := by rw [beq_eq_false_iff_ne]; omega
    have hne2 : ¬ ((ftF ps : Nat) : Int) = 0 := by omega
    obtain ⟨a, c, rfl, k1, k2, _⟩ := hv.form
    clear hP hv hb h
    generalize ftF ps = y at *
    generalize ps.length = N at *
    go_enter Try.func5, Try.ntmps5
    go_wp2_with (first
      | (go_at_call 11; with_reducible refine HC.out.mono ?_; rintro e w1 ⟨rfl, H1⟩))
    exact HF.out _ H1.out
theorem jn_snoc (ps : List Tx) (h : ps ≠ []) (p : Tx) : jn (ps ++ [p]) = jn ps ++ 47 :: p := by
  induction ps with
  | nil => exact absurd rfl h
  | cons q r ih =>
    cases r with
    | nil => rfl
    | cons x r =>
      rw [List.cons_append]
      show q ++ 47 :: jn ((x :: r) ++ [p]) = _
      rw [ih (by simp), jn]
      simp
theorem mk_app (l m : Tx) : mk l ++ mk m = mk (l ++ m) := by
  apply ByteArray.ext
  simp [mk]
theorem jn_take (ps : List Tx) (I : Nat) (h0 : 0 < I) (hI : I < ps.length) : jn (ps.take (I + 1)) = jn (ps.take I) ++ 47 :: ps[I] := by
  rw [List.take_add_one, List.getElem?_eq_getElem hI, Option.toList_some, jn_snoc]
  intro e
  have h : (ps.take I).length = 0 := by rw [e]; rfl
  rw [List.length_take] at h
  omega
theorem jn_len_le (ps : List Tx) : (jn ps).length ≤ tot ps := by
  cases ps with
  | nil => simp [jn]
  | cons p r => have := jn_length p r; omega
theorem tot_small (ps : List Tx) (h : ∀ p ∈ ps, p.length ≤ 255) : tot ps ≤ 256 * ps.length := by
  induction ps with
  | nil => simp [tot]
  | cons p r ih =>
    have h1 := h p (by simp)
    have h2 := ih (fun q hq => h q (by simp [hq]))
    rw [tot, List.length_cons]
    omega
end Go.Proofs.Ytfmghmidklpdaab
