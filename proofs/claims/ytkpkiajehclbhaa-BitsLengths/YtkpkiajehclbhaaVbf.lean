import Derived.Test.YtkpkiajehclbhaaVbe
namespace Go.Proofs.Ytkpkiajehclbhaa
open Go.RowKit
set_option linter.unusedVariables false
/-- One number more, to a list of one's own or to none. -/
theorem og_push (wr : World) (og : Option Nat) (v : Value) (l : List Nat) (h : OgR RI og v (toI l) wr) (hl : l.length ≤ 1000000) (x : Nat) :
    ∃ a' c' W og', Hid (∀ ty, (Builtin.append_ #[54, 54] ty #[v, .slice (some ⟨wr.heap.size, 0, none⟩) 1 1]).run Try.prog (wr.alloc (.cells #[.int .i64 (x : Nat)] 3)) = .ok (.slice a' (l.length + 1) c') W) ∧ OgR RI og' (.slice a' (l.length + 1) c') (toI (l ++ [x])) W ∧ Fr (fun k => og = some k) wr W ∧ Went og og' wr ∧ l.length + 1 ≤ c' ∧ c' < 9223372036854775808 := by
  have hN : Nw wr (wr.alloc (.cells #[.int .i64 (x : Nat)] 3)) := (Fr.refl _ _).alloc _
  have hb := OwR.built riOk wr [(x : Int)] #[.int .i64 (x : Nat)] (by simp [flatR, RI]) (by simp)
  obtain ⟨v', og', W, k1, k2, k3, k4⟩ := ogR_app riOk _ og v (toI l) (h.nw hN) (.slice (some ⟨wr.heap.size, 0, none⟩) 1 1) [(x : Int)] ((hb.slr riOk).mono (fun _ h => h.elim)) (by simp [RI, toI_length]; omega) (by simp [toI_length]; omega)
  have e : toI l ++ [(x : Int)] = toI (l ++ [x]) := by simp [toI]
  rw [e] at k2
  obtain ⟨a', c', e2, q1, q2⟩ := k2.form
  rw [toI_length, List.length_append, List.length_singleton] at e2 q1
  subst e2
  refine ⟨a', c', W, og', k1, k2, hN.any.trans k3, ?_, q1, q2⟩
  rcases k4 with rfl | ⟨g, rfl, hg⟩
  · exact .inl rfl
  · refine .inr ⟨g, rfl, ?_⟩
    have : (wr.alloc (.cells #[.int .i64 (x : Nat)] 3)).heap.size = wr.heap.size + 1 := by simp
    omega
/-- The symbols that come at all, of the first I. -/
def psy (os : List Int) (I : Nat) : List Nat := (List.range I).filter (fun x => decide (0 < kof os x))
theorem psy_succ (os : List Int) (I : Nat) : psy os (I + 1) = if 0 < kof os I then psy os I ++ [I] else psy os I := by
  unfold psy
  rw [List.range_succ, List.filter_append]
  by_cases h : 0 < kof os I
  · rw [if_pos h]; simp [h]
  · rw [if_neg h]; simp [h]
theorem psy_len (os : List Int) (I : Nat) : (psy os I).length ≤ I := by
  unfold psy
  exact Nat.le_trans (List.length_filter_le _ _) (by simp)
theorem psy_mem (os : List Int) (I x : Nat) : x ∈ psy os I ↔ x < I ∧ 0 < kof os x := by
  unfold psy
  simp [List.mem_filter]
theorem mem_getD {l : List Nat} {i : Nat} (h : i < l.length) : l.getD i 0 ∈ l := by
  rw [getD_eq l i h]; exact List.getElem_mem h
set_option maxHeartbeats 8000000 in
theorem sort_nil (ob : Nat) (w : World) : Calls Try.prog 62 #[.slice none 0 0, cmpF ob] w fun e w' => (∃ r, e = .returned r) ∧ w' = w := by
  obtain ⟨P, hP⟩ : ∃ P : Ending → World → Prop, P = fun e w' => (∃ r, e = .returned r) ∧ w' = w := ⟨_, rfl⟩
  rw [← hP]
  have HF : Hid (∀ r, P (.returned r) w) := fun r => by rw [hP]; exact ⟨⟨r, rfl⟩, rfl⟩
  have HI : Hid (∀ V, Calls Try.prog 71 #[.slice none 0 0, .int .i64 0, .int .i64 0, cmpF ob] V fun e w' => (∃ r, e = .returned r) ∧ w' = V) := fun V => by
    obtain ⟨R, hR⟩ : ∃ P : Ending → World → Prop, P = fun e w' => (∃ r, e = .returned r) ∧ w' = V := ⟨_, rfl⟩
    rw [← hR]
    have HF2 : Hid (∀ r, R (.returned r) V) := fun r => by rw [hR]; exact ⟨⟨r, rfl⟩, rfl⟩
    clear hR hP HF
    go_enter Try.func71, Try.ntmps71
    go_wp2
    go_loopg [8] 0 (fun kx i wr => i = .int .i64 1 ∧ wr = V)
    case atStart => exact ⟨rfl, rfl⟩
    case round =>
      obtain ⟨rfl, rfl⟩ := hrel
      go_wp2_with fail
      first | exact HF2.out _ | (go_end0; exact HF2.out _)
  have HS : Hid (Calls Try.prog 69 #[.slice none 0 0, .int .i64 0, cmpF ob] w fun e w' => (∃ r, e = .returned r) ∧ w' = w) := by
    obtain ⟨R, hR⟩ : ∃ P : Ending → World → Prop, P = fun e w' => (∃ r, e = .returned r) ∧ w' = w := ⟨_, rfl⟩
    show Calls _ _ _ _ _
    rw [← hR]
    have HF2 : Hid (∀ r, R (.returned r) w) := fun r => by rw [hR]; exact ⟨⟨r, rfl⟩, rfl⟩
    clear hR hP HF
    go_enter Try.func69, Try.ntmps69
    go_wp2
    go_loopg [7, 8] 0 (fun kx a b wr => a = .int .i64 0 ∧ b = .int .i64 20 ∧ wr = w)
    case atStart => exact ⟨rfl, rfl, rfl⟩
    case round =>
      obtain ⟨rfl, rfl, rfl⟩ := hrel
      go_wp2_with (first | (go_at_call 71; (with_reducible refine (HI.out _).mono ?_); rintro e w1 ⟨⟨r, rfl⟩, rfl⟩))
      go_loopg [6, 7, 8] 0 (fun kx s a b wr => s = .int .i64 20 ∧ a = .int .i64 0 ∧ b = .int .i64 20 ∧ wr = w1)
      case atStart => exact ⟨rfl, rfl, rfl, rfl⟩
      case round =>
        obtain ⟨rfl, rfl, rfl, rfl⟩ := hrel
        go_wp2_with fail
        first | exact HF2.out _ | (go_end0; exact HF2.out _)
  clear hP HI
  go_enter Try.func62, Try.ntmps62
  go_wp2_with (first | (go_at_call 69; (with_reducible refine HS.out.mono ?_); rintro e w1 ⟨⟨r, rfl⟩, rfl⟩))
  first | exact HF.out _ | (go_end0; exact HF.out _)
end Go.Proofs.Ytkpkiajehclbhaa

namespace Go.Proofs.Ytkpkiajehclbhaa
open Go.RowKit
set_option linter.unusedVariables false
/-- The symbols, rarest first. -/
structure RfS (os : List Int) (ys : List Nat) : Prop where
  perm : ys.Perm (psy os os.length)
  srt : Srt (kof os) 0 ys.length ys
def RfA (os : List Int) (w : World) (e : Ending) (w' : World) : Prop := ∃ og a c ys, e = .returned (.slice a ys.length c) ∧ OgR RI og (.slice a ys.length c) (toI ys) w' ∧ (∀ g, og = some g → w.heap.size ≤ g) ∧ RfS os ys ∧ Nw w w'
set_option maxHeartbeats 16000000 in
set_option maxRecDepth 100000 in
theorem rarest_any (w : World) (v : Value) (os : List Int) (h : SlR RL (fun k => w.heap.size ≤ k) v os w) (hl : os.length ≤ 320) : Calls Try.prog 57 #[v] w (RfA os w) := by
  obtain ⟨P, hP⟩ : ∃ P : Ending → World → Prop, P = RfA os w := ⟨_, rfl⟩
  rw [← hP]
  obtain ⟨W1, hW1⟩ : ∃ W1, w.alloc (.cells #[v] 71) = W1 := ⟨_, rfl⟩
  have hN1 : Nw w W1 := by rw [← hW1]; exact (Fr.refl _ _).alloc _
  have hs1 : W1.heap.size = w.heap.size + 1 := by rw [← hW1]; simp
  have hrow1 : W1.heap[w.heap.size]? = some (.cells #[v] 71) := by
    rw [← hW1]; exact new_heap _ _
  have HW1 : Hid (w.alloc (.cells #[v] 71) = W1) := hW1
  have HV : Hid (∀ V, Nw W1 V → SlR RL (fun k => w.heap.size ≤ k) v os V) := fun V hV => h.nw (hN1.trans hV)
  have HF : Hid (∀ og a c ys V, OgR RI og (.slice a ys.length c) (toI ys) V → (∀ g, og = some g → w.heap.size ≤ g) → RfS os ys → Nw w V → P (.returned (.slice a ys.length c)) V) := fun og a c ys V h1 h2 h3 h4 => by rw [hP]; exact ⟨og, a, c, ys, rfl, h1, h2, h3, h4⟩
  obtain ⟨a0, c0, rfl, hc0, hc02, _⟩ := h.form
  have HN1 : Hid (Nw w W1 ∧ W1.heap.size = w.heap.size + 1 ∧ W1.heap[w.heap.size]? = some (.cells #[.slice a0 os.length c0] 71)) := ⟨hN1, hs1, hrow1⟩
  have k0 := (row_cell hrow1 0 _ rfl).1
  clear hP hN1 hs1 hrow1 h hW1
  have hmf : ∀ (fn : Fn) (first cap : Array Value) (w : World), (Instr.makeFunc fn first cap).run Try.prog w = .ok (.func fn first cap) w := fun _ _ _ _ => rfl
  generalize hL : os.length = L at *
  have HL : Hid (os.length = L) := hL
  clear hL
  generalize hB : w.heap.size = B at *
  go_enter Try.func57, Try.ntmps57
  go_upto_region 1 with fail
  rw [HW1.out]
  (try rw [hB])
  go_wp2_with fail
  go_loopg [3, 8] L (fun kx l i wr => ∃ (I ln c : Nat) (a : Option Addr), I ≤ L ∧ L - I ≤ kx ∧ l = .slice a ln c ∧ i = .int .i64 I ∧ ln ≤ c ∧ c < 9223372036854775808 ∧ Hid (∃ og, ln = (psy os I).length ∧ OgR RI og (.slice a ln c) (toI (psy os I)) wr ∧ (∀ g, og = some g → W1.heap.size ≤ g) ∧ Nw W1 wr))
  case atStart => exact ⟨0, 0, 0, none, by omega, by omega, rfl, rfl, by omega, by omega, none, by simp [psy], ⟨rfl, by simp [psy, toI]⟩, (fun g hg => by cases hg), Fr.refl _ _⟩
  case round =>
    obtain ⟨I, ln, c, a, hI, hkx, rfl, rfl, hlc, hc2, HI⟩ := hrel
    obtain ⟨og, hln, hO, hog, hNr⟩ := HI.out
    by_cases hlt : I < L
    · have hlt' : I < os.length := by rw [HL.out]; exact hlt
      obtain ⟨g, o, rfl, _, hcell⟩ := rl_at (HV.out _ hNr) I _ (kof_at os I hlt')
      have hz : (I : Int) < (L : Int) := by omega
      have hps := psy_succ os I
      by_cases hp : 0 < kof os I
      · rw [if_pos hp] at hps
        have hpl := psy_len os I
        obtain ⟨a', c', W, og', HAP, q2, q3, q4, q5, q6⟩ := og_push wr og _ (psy os I) hO (by omega) I
        rw [← hln] at HAP q2 q5
        rw [← hps] at q2
        have HN : Hid (∃ og, ln + 1 = (psy os (I + 1)).length ∧ OgR RI og (.slice a' (ln + 1) c') (toI (psy os (I + 1))) W ∧ (∀ g, og = some g → W1.heap.size ≤ g) ∧ Nw W1 W) := by
          refine ⟨og', by rw [hps]; simp; exact hln, q2, fun g hg => ?_, Fr.then hNr q3 (fun k hk => .inr (hog k hk))⟩
          rcases q4 with rfl | ⟨g', e, hg'⟩
          · exact hog g hg
          · rw [hg] at e; injection e with e; subst e
            exact Nat.le_trans hNr.size hg'
        clear HI hln hO hog hNr q2 q3 q4 HF HV hps hpl
        generalize kof os I = x at *
        go_wp2_with (first
          | (at_builtin; refine Lib.wpList_append_run _ rfl _ _ 54 54 rfl (.slice a ln c) (.slice (some ⟨_, 0, none⟩) 1 1) (by simp [Act.eval]) (by simp [Act.eval]) _ _ (HAP.out _) ?_))
        go_roundg (L - (I + 1))
        case measure => omega
        case rel => exact ⟨I + 1, ln + 1, c', a', by omega, by omega, rfl, by first | rfl | (congr 1), q5, q6, HN⟩
      · rw [if_neg hp] at hps
        have HN : Hid (∃ og, ln = (psy os (I + 1)).length ∧ OgR RI og (.slice a ln c) (toI (psy os (I + 1))) wr ∧ (∀ g, og = some g → W1.heap.size ≤ g) ∧ Nw W1 wr) := by rw [hps]; exact HI.out
        clear HI hln hO hog hNr HF HV hps
        generalize kof os I = x at *
        go_wp2_with fail
        go_roundg (L - (I + 1))
        case measure => omega
        case rel => exact ⟨I + 1, ln, c, a, by omega, by omega, rfl, by first | rfl | (congr 1), hlc, hc2, HN⟩
    · obtain rfl : I = L := by omega
      have hz : ¬ (I : Int) < (I : Int) := by omega
      have hpl := psy_len os I
      have HC : Hid (Calls Try.prog 62 #[.slice a ln c, .func (.func 63) #[] #[.pointer (some ⟨B, 0, none⟩)]] wr fun e w' => (∃ r, e = .returned r) ∧ Hid (P (.returned (.slice a ln c)) w')) := by
        obtain ⟨hn1, hs1, hr1⟩ := HN1.out
        cases og with
        | none =>
          obtain ⟨e1, e2⟩ := hO
          have hnil : psy os I = [] := by
            have := congrArg List.length e2
            rw [toI_length] at this
            exact List.eq_nil_of_length_eq_zero (by simpa using this)
          rw [hnil] at hln
          simp at hln
          subst hln
          cases e1
          refine (sort_nil B wr).mono ?_
          rintro e w' ⟨⟨r, rfl⟩, rfl⟩
          refine ⟨⟨r, rfl⟩, ?_⟩
          exact HF.out none none 0 [] w' ⟨rfl, rfl⟩ (fun g hg => by cases hg) ⟨by rw [HL.out, hnil], fun p q h1 h2 h3 => by simp at h3⟩ (hn1.trans hNr)
        | some g =>
          have hg := hog g rfl
          obtain ⟨c', e', _, _⟩ := OwR.form hO
          rw [toI_length, ← hln] at e'
          cases e'
          have hS : SoI g ln c B os (psy os I) wr := by
            refine ⟨⟨hO, hln.symm, by omega⟩, ⟨⟨_, hNr.heap hr1, (HV.out wr hNr).mono (fun k hk => by omega)⟩, by omega, by rw [HL.out]; omega⟩, fun i hi => ?_⟩
            have := (psy_mem os I _).1 (mem_getD (l := psy os I) (by rw [← hln]; exact hi))
            rw [HL.out]; exact this.1
          refine (sortst_any hS).mono ?_
          rintro e w' ⟨⟨r, rfl⟩, k1, ys, k2, k3, k4⟩
          refine ⟨⟨r, rfl⟩, ?_⟩
          have hyl := k2.len
          have := HF.out (some g) (some ⟨g, 0, none⟩) c ys w' (by rw [hyl]; exact k2.d) (fun g' hg' => by injection hg' with hg'; omega) ⟨by rw [HL.out]; exact k3.perm, by rw [hyl]; exact k4⟩ (Fr.then (hn1.trans hNr) k1 (fun k hk => .inr (by omega)))
          rw [hyl] at this
          exact this
      clear HI hln hO hog hNr HF HV hpl HN1
      go_wp2_with (first | (go_at_call 62; (with_reducible refine HC.out.mono ?_); rintro e w1 ⟨⟨r, rfl⟩, H1⟩))
      exact H1.out
end Go.Proofs.Ytkpkiajehclbhaa
