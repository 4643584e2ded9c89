import Derived.Test.YtkpkiajehclbhaaVbj
namespace Go.Proofs.Ytkpkiajehclbhaa
open Go.RowKit
set_option linter.unusedVariables false
theorem wpL_mk {ops : Array Oper} {rest : List Oper} {o : Oper} {a : Act} {w W : World} {v : Value} {Q : Exit → Act → World → Prop} (hg : o.guard = none) (l c : Operand) (t : TypeId) (hop : o.op = Op.makeSlice t l c) (L C : Int) (hl : a.eval l = .int .i64 L) (hc : a.eval c = .int .i64 C) (hrun : (Instr.makeSlice t (.int .i64 L) (.int .i64 C)).run Try.prog w = .ok v W) (hK : wpList Try.prog ops Q rest (a.put o.dst v) W) : wpList Try.prog ops Q (o :: rest) a w := by
  refine wpList_plain hg fun K hK' => ?_
  unfold Oper.wp
  simp [execOp, hop, hl, hc, hrun, Result.andThen]
  exact hK' _ _ hK
/-- A purse of one's own. -/
def OwnC (l : List Coin) (w : World) (e : Ending) (w' : World) : Prop := ∃ g c, e = .returned (.slice (some ⟨g, 0, none⟩) l.length c) ∧ OwR RC g (.slice (some ⟨g, 0, none⟩) l.length c) l w' ∧ w.heap.size ≤ g ∧ Nw w w'
def prc (P0 : List Coin) : List Coin := (pr (cost P0)).map (fun p => (p, true))
theorem prc_length (P0 : List Coin) : (prc P0).length = P0.length / 2 := by simp [prc, pr_length, cost_length]
theorem prc_step (P0 : List Coin) (q : Nat) (x y : Coin) (hx : P0[2 * q]? = some x) (hy : P0[2 * q + 1]? = some y) : (prc P0).take (q + 1) = (prc P0).take q ++ [(x.1 + y.1, true)] := by
  have hl := (List.getElem?_eq_some_iff.1 hy).1
  have hq : q < (prc P0).length := by rw [prc_length]; omega
  have h1 := pr_at (cost P0) q (by rw [cost_length]; exact hl)
  have e1 : (cost P0).getD (2 * q) 0 = x.1 := by rw [List.getD_eq_getElem?_getD]; unfold cost; rw [List.getElem?_map, hx]; rfl
  have e2 : (cost P0).getD (2 * q + 1) 0 = y.1 := by rw [List.getD_eq_getElem?_getD]; unfold cost; rw [List.getElem?_map, hy]; rfl
  rw [e1, e2] at h1
  have h2 : (prc P0)[q]? = some (x.1 + y.1, true) := by
    unfold prc
    have hq2 : q < (pr (cost P0)).length := by rw [pr_length, cost_length]; omega
    rw [List.getElem?_map, List.getElem?_eq_getElem hq2]
    rw [getD_eq _ q hq2] at h1
    simp [h1]
  rw [List.take_add_one, h2]; rfl
set_option maxHeartbeats 16000000 in
set_option maxRecDepth 100000 in
theorem paired_any (w : World) (v : Value) (P0 : List Coin) (h : SlR RC (fun k => w.heap.size ≤ k) v P0 w) (hl : P0.length ≤ 1000) (hb : ∀ x ∈ P0, x.1 ≤ 36028797018963968) : Calls Try.prog 66 #[v] w (OwnC (prc P0) w) := by
  obtain ⟨P, hP⟩ : ∃ P : Ending → World → Prop, P = OwnC (prc P0) w := ⟨_, rfl⟩
  rw [← hP]
  have HP : Hid (P = OwnC (prc P0) w) := hP
  have HS : Hid (∀ V, Nw w V → SlR RC (fun k => w.heap.size ≤ k) v P0 V) := fun V hV => h.nw hV
  have HB : Hid (∀ x ∈ P0, x.1 ≤ 36028797018963968) := hb
  obtain ⟨a, c, rfl, hc, hc2, _⟩ := h.form
  clear hP h hb
  generalize hL : P0.length = L at *
  have HL : Hid (P0.length = L) := hL
  clear hL
  obtain ⟨M, hM⟩ : ∃ M, M = L / 2 := ⟨_, rfl⟩
  have hMi : (L : Int) / 2 = (M : Int) := by omega
  have hMi2 : Int.tdiv (L : Int) 2 = (M : Int) := by rw [Int.tdiv_eq_ediv_of_nonneg (by omega)]; exact hMi
  obtain ⟨W0, HMk, ⟨xs0, e1, e2, e3, e4, e5⟩, hN0, hs0⟩ := OwR.made rcOk w 0 M (by omega) (by simp only [RC]; omega) (by omega)
  have HMk2 : Hid ((Instr.makeSlice 113 (.int .i64 0) (.int .i64 M)).run Try.prog w = .ok (.slice (some ⟨w.heap.size, 0, none⟩) 0 M) W0) := HMk
  have HI0 : Hid (OwR RC w.heap.size (.slice (some ⟨w.heap.size, 0, none⟩) 0 M) ((prc P0).take 0) W0 ∧ w.heap.size ≤ w.heap.size ∧ Nw w W0) := ⟨⟨xs0, by simpa using e1, by simp, by simp, e4, e5⟩, Nat.le_refl _, hN0⟩
  clear HMk e1 e2 e3 e4 e5 hN0 hs0
  have HM : Hid (M = L / 2) := hM
  clear hM
  generalize hB0 : w.heap.size = B0 at *
  go_enter Try.func66, Try.ntmps66
  go_wp2_with (first | (at_make; refine wpL_mk rfl _ _ 113 rfl (0 : Int) (M : Int) (by simp [Act.eval]) (by simp [Act.eval]) HMk2.out ?_))
  go_loopg [3, 4] (M + 1) (fun kx l i wr => ∃ (q g cc : Nat), q ≤ M ∧ M - q < kx ∧ l = .slice (some ⟨g, 0, none⟩) q cc ∧ i = .int .i64 ((2 * q + 1 : Nat) : Int) ∧ q ≤ cc ∧ cc < 9223372036854775808 ∧ Hid (OwR RC g (.slice (some ⟨g, 0, none⟩) q cc) ((prc P0).take q) wr ∧ B0 ≤ g ∧ Nw w wr))
  case atStart => exact ⟨0, B0, M, by omega, by omega, rfl, rfl, by omega, by omega, HI0⟩
  case round =>
    clear HI0 HMk2
    obtain ⟨q, g, cc, hq, hkx, rfl, rfl, hcc1, hcc2, HI⟩ := hrel
    obtain ⟨hO, hg, hN⟩ := HI.out
    obtain ⟨I, hI⟩ : ∃ I, 2 * q + 1 = I := ⟨_, rfl⟩
    rw [hI]
    by_cases hlt : I < L
    · have hz : (I : Int) < (L : Int) := by omega
      have hql : ((prc P0).take q).length = q := by rw [List.length_take, prc_length, HL.out, ← HM.out]; omega
      obtain ⟨J, hJ⟩ : ∃ J, J + 1 = I := ⟨I - 1, by omega⟩
      have hJi : (I : Int) - 1 = (J : Int) := by omega
      have hJL : (J : Int) < (L : Int) := by omega
      obtain ⟨x, hx⟩ : ∃ x, P0[J]? = some x := ⟨_, List.getElem?_eq_getElem (by rw [HL.out]; omega)⟩
      obtain ⟨y, hy⟩ : ∃ y, P0[I]? = some y := ⟨_, List.getElem?_eq_getElem (by rw [HL.out]; omega)⟩
      have hxb := HB.out x (List.mem_of_getElem? hx)
      have hyb := HB.out y (List.mem_of_getElem? hy)
      obtain ⟨g1, o1, rfl, _, k1, _⟩ := rc_at (HS.out wr hN) J x hx
      obtain ⟨g2, o2, ee, _, k2, _⟩ := rc_at (HS.out wr hN) I y hy
      injection ee with ee
      injection ee with ee1 ee2
      subst ee1 ee2
      obtain ⟨S, hS⟩ : ∃ S, x.1 + y.1 = S := ⟨_, rfl⟩
      have hSi : ((x.1 : Nat) : Int) + ((y.1 : Nat) : Int) = (S : Int) := by omega
      have hw1 : IntKind.i64.wrap (J : Int) = (J : Int) := by rw [IntKind.wrap_i64]; omega
      have hw2 : IntKind.i64.wrap (S : Int) = (S : Int) := by rw [IntKind.wrap_i64]; omega
      have hst := prc_step P0 q x y (by rw [show 2 * q = J by omega]; exact hx) (by rw [show 2 * q + 1 = I by omega]; exact hy)
      rw [hS] at hst
      obtain ⟨g', c', W, HAP, p2, p3, p4, p5, p6⟩ := ow_push rcOk wr.drew g q cc _ (hO.nw ((Fr.refl _ _).drew)) hql (S, true) #[.int .i64 (S : Nat), .bool true] (by simp [RC]) (by simp only [RC]; omega) (by omega)
      rw [← hst] at p2
      have HN2 : Hid (OwR RC g' (.slice (some ⟨g', 0, none⟩) (q + 1) c') ((prc P0).take (q + 1)) W ∧ B0 ≤ g' ∧ Nw w W) := by
        have hsz := hN.size
        refine ⟨p2, ?_, Fr.then hN.drew p3 (fun k hk => .inr (by omega))⟩
        rcases p4 with rfl | p4
        · exact hg
        · have : wr.drew.heap.size = wr.heap.size := rfl
          omega
      clear HI hO hg hN p2 p3 p4 HS HB hst hx hy hS HP hql HM HL
      obtain ⟨x1, x2⟩ := x
      obtain ⟨y1, y2⟩ := y
      go_wp2_with fail
      go_region_law (first
        | (refine step_append_ty 113 rfl _ _ rfl (.slice (some ⟨g, 0, none⟩) q cc) (.slice (some ⟨_, 0, none⟩) 1 1) (by first | rfl | simp [Act.eval, Act.put]) (by first | rfl | simp [Act.eval, Act.put]) _ _ (HAP.out) ?_))
      all_goals go_wp2_with fail
      all_goals go_roundg (M - (q + 1) + 1)
      all_goals (first
        | omega
        | exact ⟨q + 1, g', c', by omega, by omega, rfl, by (congr 1; omega), p5, p6, HN2⟩)
    · have hz : ¬ (I : Int) < (L : Int) := by omega
      have hqM : q = M := by have := HM.out; omega
      have HF2 : Hid (P (.returned (.slice (some ⟨g, 0, none⟩) q cc)) wr) := by
        show P _ _
        rw [HP.out]
        have e : (prc P0).take q = prc P0 := List.take_of_length_le (by rw [prc_length, HL.out]; have := HM.out; omega)
        have e2 : (prc P0).length = q := by rw [prc_length, HL.out]; have := HM.out; omega
        rw [e] at hO
        refine ⟨g, cc, by rw [e2], by rw [e2]; exact hO, by omega, hN⟩
      clear HI hO hg hN HS HB HP HM HL hqM
      go_wp2_with fail
      exact HF2.out
end Go.Proofs.Ytkpkiajehclbhaa

namespace Go.Proofs.Ytkpkiajehclbhaa
open Go.RowKit
set_option linter.unusedVariables false
def prs (ps : List Nat) : List Coin := ps.map (fun p => (p, true))
theorem mg_take (c p : Nat) (cs r : List Nat) (h : p < c) : mg (c :: cs) (p :: r) = (p, true) :: mg (c :: cs) r := by
  simp [mg, h]
theorem mg_emit (c : Nat) (cs ps : List Nat) (h : ∀ p, ps.head? = some p → ¬ p < c) : mg (c :: cs) ps = (c, false) :: mg cs ps := by
  cases ps with
  | nil => simp [mg]
  | cons p r =>
    have := h p rfl
    simp [mg, this]
theorem rc_tail {X : Nat → Prop} {g o n c : Nat} {x : Coin} {r : List Coin} {w : World} (h : SlR RC X (.slice (some ⟨g, o, none⟩) n c) (x :: r) w) (o' c' : Nat) (ho : (o' = o + 2 ∧ c' = c - 1) ∨ (c ≤ 1 ∧ c' = 0)) : SlR RC X (.slice (some ⟨g, o', none⟩) r.length c') r w := by
  rcases h with ⟨a, e, h⟩ | ⟨g1, o1, c1, h1, e, h3, h4, h5⟩
  · cases h
  · have e1 : n = (x :: r).length := by
      generalize (x :: r).length = q at e
      cases e; rfl
    have e2 : g1 = g ∧ o1 = o ∧ c1 = c := by
      generalize (x :: r).length = q at e
      cases e; exact ⟨rfl, rfl, rfl⟩
    obtain ⟨rfl, rfl, rfl⟩ := e2
    rw [List.length_cons] at h3
    rcases ho with ⟨rfl, rfl⟩ | ⟨hc, rfl⟩
    · refine .inr ⟨g1, o1 + 2, c1 - 1, h1, rfl, by omega, by omega, fun i y j u hy hu => ?_⟩
      have := h5 (i + 1) y j u (by simpa using hy) hu
      rw [show o1 + 2 + i * RC.k + j = o1 + (i + 1) * RC.k + j by show o1 + 2 + i * 2 + j = o1 + (i + 1) * 2 + j; omega]
      exact this
    · have hr : r = [] := List.eq_nil_of_length_eq_zero (by omega)
      subst hr
      exact .inl ⟨_, rfl, rfl⟩
/-- How the merging stands: what is in the purse, what is left of the pairs. -/
def MgI (w : World) (cs ps : List Nat) (J : Nat) (g d cc : Nat) (a : Option Addr) (n c : Nat) (rest : List Nat) (wr : World) : Prop :=
  ∃ don, don.length = d ∧ OwR RC g (.slice (some ⟨g, 0, none⟩) d cc) don wr ∧ don ++ mg (cs.drop J) rest = mg cs ps ∧ rest.length = n ∧ SlR RC (fun k => w.heap.size ≤ k) (.slice a n c) (prs rest) wr ∧ w.heap.size ≤ g ∧ Nw w wr ∧ (∀ p ∈ rest, p ∈ ps)
theorem MgI.le {w : World} {cs ps : List Nat} {J g d cc n c : Nat} {a : Option Addr} {rest : List Nat} {wr : World} (h : MgI w cs ps J g d cc a n c rest wr) : d + (cs.length - J) + n = cs.length + ps.length ∧ d ≤ cc ∧ cc < 9223372036854775808 ∧ n ≤ c ∧ c < 9223372036854775808 := by
  obtain ⟨don, h1, h2, h3, h4, h5, _⟩ := h
  have e := congrArg List.length h3
  rw [List.length_append, mg_length, mg_length, List.length_drop, h1, h4] at e
  obtain ⟨c', e1, q1, q2⟩ := h2.form
  rw [h1] at e1 q1
  cases e1
  obtain ⟨a', c'', e2, r1, r2, _⟩ := h5.form
  have hl : (prs rest).length = n := by simp [prs]; exact h4
  rw [hl] at e2 r1
  cases e2
  exact ⟨by omega, q1, q2, r1, r2⟩
theorem MgI.keep {w : World} {cs ps : List Nat} {J g d cc n c : Nat} {a : Option Addr} {rest : List Nat} {wr V : World} (h : MgI w cs ps J g d cc a n c rest wr) (k : Nw wr V) : MgI w cs ps J g d cc a n c rest V := by
  obtain ⟨don, h1, h2, h3, h4, h5, h6, h7, h8⟩ := h
  exact ⟨don, h1, h2.nw k, h3, h4, h5.nw k, h6, h7.trans k, h8⟩
theorem MgI.nw {w : World} {cs ps : List Nat} {J g d cc n c : Nat} {a : Option Addr} {rest : List Nat} {wr : World} (h : MgI w cs ps J g d cc a n c rest wr) : Nw w wr := h.choose_spec.2.2.2.2.2.2.1
theorem MgI.len {w : World} {cs ps : List Nat} {J g d cc n c : Nat} {a : Option Addr} {rest : List Nat} {wr : World} (h : MgI w cs ps J g d cc a n c rest wr) : rest.length = n := h.choose_spec.2.2.2.1
theorem MgI.sl {w : World} {cs ps : List Nat} {J g d cc n c : Nat} {a : Option Addr} {rest : List Nat} {wr : World} (h : MgI w cs ps J g d cc a n c rest wr) : SlR RC (fun k => w.heap.size ≤ k) (.slice a n c) (prs rest) wr ∧ ∀ p ∈ rest, p ∈ ps := ⟨h.choose_spec.2.2.2.2.1, h.choose_spec.2.2.2.2.2.2.2⟩
/-- A coin goes into the purse. -/
theorem MgI.push {w : World} {cs ps : List Nat} {J J' g d cc n c : Nat} {a : Option Addr} {rest : List Nat} {wr : World} (h : MgI w cs ps J g d cc a n c rest wr) (hd : d ≤ 100000) (x : Coin) (rest' : List Nat) (hx : mg (cs.drop J) rest = x :: mg (cs.drop J') rest') (ar : Array Value) (har : ar = #[.int .i64 (x.1 : Nat), .bool x.2]) :
    ∃ g' cc' W, Hid (∀ ty, (Builtin.append_ #[113, 113] ty #[.slice (some ⟨g, 0, none⟩) d cc, .slice (some ⟨wr.heap.size, 0, none⟩) 1 1]).run Try.prog (wr.alloc (.cells ar 121)) = .ok (.slice (some ⟨g', 0, none⟩) (d + 1) cc') W) ∧
      ∀ a' n' c', rest'.length = n' → (∀ p ∈ rest', p ∈ rest) → (∀ V, SlR RC (fun k => w.heap.size ≤ k) (.slice a n c) (prs rest) V → SlR RC (fun k => w.heap.size ≤ k) (.slice a' n' c') (prs rest') V) → MgI w cs ps J' g' (d + 1) cc' a' n' c' rest' W := by
  obtain ⟨don, h1, h2, h3, h4, h5, h6, h7, h8⟩ := h
  obtain ⟨g', c', W, HAP, p2, p3, p4, p5, p6⟩ := ow_push rcOk wr g d cc don h2 h1 x ar (by rw [har]; rfl) (by simp only [RC]; omega) (by omega)
  refine ⟨g', c', W, HAP, fun a' n' c'' e1 e2 e3 => ⟨don ++ [x], by simp [h1], p2, ?_, e1, e3 W (h5.kept p3 (fun k hk => by rw [hk]; exact h6)), ?_, Fr.then h7 p3 (fun k hk => .inr (by rw [hk]; exact h6)), fun p hp => h8 p (e2 p hp)⟩⟩
  · rw [List.append_assoc, List.singleton_append, ← hx]; exact h3
  · have := h7.size
    rcases p4 with e | e <;> omega
/-- What is left goes in at the end. -/
theorem MgI.last {w : World} {cs ps : List Nat} {g d cc n c : Nat} {a : Option Addr} {rest : List Nat} {wr : World} (h : MgI w cs ps cs.length g d cc a n c rest wr) (hl : cs.length + ps.length ≤ 100000) :
    ∃ g' cc' W, Hid (∀ ty, (Builtin.append_ #[113, 113] ty #[.slice (some ⟨g, 0, none⟩) d cc, .slice a n c]).run Try.prog wr = .ok (.slice (some ⟨g', 0, none⟩) (cs.length + ps.length) cc') W) ∧ OwnC (mg cs ps) w (.returned (.slice (some ⟨g', 0, none⟩) (cs.length + ps.length) cc')) W := by
  have hle := h.le
  obtain ⟨don, h1, h2, h3, h4, h5, h6, h7, h8⟩ := h
  have hlen : (prs rest).length = n := by simp [prs]; exact h4
  obtain ⟨v', g', W, k1, k2, k3, k4⟩ := owR_app rcOk wr g _ don h2 (.slice a n c) (prs rest) (h5.mono (fun _ h => h.elim)) (by simp only [RC]; rw [h1, hlen]; omega) (by rw [h1, hlen]; omega)
  have e : don ++ prs rest = mg cs ps := by
    rw [← h3, List.drop_length]; rfl
  rw [e] at k2
  obtain ⟨c', e2, q1, q2⟩ := k2.form
  have hml := mg_length cs ps
  subst e2
  refine ⟨g', c', W, fun ty => ?_, g', c', ?_, ?_, ?_, Fr.then h7 k3 (fun k hk => .inr (by rw [hk]; exact h6))⟩
  · rw [← hml]; exact k1 ty
  · rw [hml]
  · exact k2
  · have := h7.size
    rcases k4 with e | e <;> omega
end Go.Proofs.Ytkpkiajehclbhaa
