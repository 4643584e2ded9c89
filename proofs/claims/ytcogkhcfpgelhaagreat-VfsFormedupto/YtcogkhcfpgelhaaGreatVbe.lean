import Derived.Orders
import Derived.Deep.RegionHeld3
namespace Go.Proofs.YtcogkhcfpgelhaaGreat
open Go
set_option linter.unusedVariables false
/-! ### A region whose last operation is taken off: the rest is a region by itself -/
section
variable {P : Program} {ops : Array Oper} {Q : Exit → Act → World → Prop} {md : Region.Mode}
/-- Whatever is waited for stands ahead; and each operation but number N has one behind it that waits for it. -/
def lastB (md : Region.Mode) (ops : Array Oper) (N : Nat) : Bool :=
  ((List.range ops.size).all fun k => ((ops[k]?).map (·.after.all fun e => !Region.binds md e || decide (e.on < k))).getD true) &&
  ((List.range ops.size).all fun j => j == N || (List.range ops.size).any fun k => decide (j < k) && ((ops[k]?).map (·.after.any fun e => Region.binds md e && e.on == j)).getD false)
/-- What is behind the last one. -/
def lastQ (P : Program) (o : Oper) (Q : Exit → Act → World → Prop) : Exit → Act → World → Prop
  | .normal, a, w => o.wp P a w (fun a w => Q .normal a w) Q
  | e, a, w => Q e a w
def idleO (o : Oper) : Oper := { o with op := .move (.const (.bool true)) }
structure Lst (md : Region.Mode) (ops : Array Oper) (N : Nat) : Prop where
  back : ∀ k o, ops[k]? = some o → ∀ e ∈ o.after, Region.binds md e = true → e.on < k
  fwd : ∀ j, j < ops.size → j ≠ N → ∃ k o, ops[k]? = some o ∧ j < k ∧ ∃ e ∈ o.after, Region.binds md e = true ∧ e.on = j
theorem lst_of {N : Nat} (h : lastB md ops N = true) : Lst md ops N := by
  unfold lastB at h
  rw [Bool.and_eq_true, List.all_eq_true, List.all_eq_true] at h
  refine ⟨fun k o ho e he hb => ?_, fun j hj hne => ?_⟩
  · have hk : k < ops.size := (Array.getElem?_eq_some_iff.1 ho).1
    have := h.1 k (List.mem_range.2 hk)
    rw [ho] at this
    simp only [Option.map_some, Option.getD_some, Array.all_eq_true_iff_forall_mem] at this
    have := this e he
    rw [hb] at this
    simpa using this
  · have := h.2 j (List.mem_range.2 hj)
    rw [Bool.or_eq_true] at this
    rcases this with h' | h'
    · exact absurd (by simpa using h') hne
    · rw [List.any_eq_true] at h'
      obtain ⟨k, hk, h'⟩ := h'
      rw [Bool.and_eq_true] at h'
      cases ho : ops[k]? with
      | none => rw [ho] at h'; simp at h'
      | some o =>
        rw [ho] at h'
        simp only [decide_eq_true_eq, Option.map_some, Option.getD_some] at h'
        obtain ⟨h1, h2⟩ := h'
        obtain ⟨e, he, h3⟩ := Array.any_eq_true'.1 h2
        rw [Bool.and_eq_true] at h3
        exact ⟨k, o, ho, h1, e, he, h3.1, by simpa using h3.2⟩
/-- What came up is closed: whatever came up waited for nothing that did not. -/
def Clo (md : Region.Mode) (ops : Array Oper) (listed : Array Bool) : Prop := listed.size = ops.size ∧ ∀ k o, ops[k]? = some o → listed.getD k true = true → ∀ e ∈ o.after, Region.binds md e = true → listed.getD e.on false = true
theorem getDs {l : Array Bool} {i : Nat} (h : i < l.size) (b c : Bool) : l.getD i b = l.getD i c := by simp [Array.getD, h]
theorem Clo.none {N : Nat} {listed : Array Bool} (hL : Lst md ops N) (hc : Clo md ops listed) (h : Region.ready md ops listed = []) (k : Nat) : k < ops.size → listed.getD k false = true := by
  induction k using Nat.strongRecOn with
  | _ k ih =>
    intro hk
    cases hd : listed.getD k false with
    | true => rfl
    | false =>
      exfalso
      have ho : ops[k]? = some ops[k] := Array.getElem?_eq_getElem hk
      have : k ∈ Region.ready md ops listed := by
        rw [mem_ready]
        refine ⟨by rw [getDs (by rw [hc.1]; exact hk) true false]; exact hd, ops[k], ho, fun e he hb => ?_⟩
        have hlt := hL.back k _ ho e he hb
        exact ih e.on hlt (by omega)
      rw [h] at this
      cases this
theorem Clo.last {N : Nat} {listed : Array Bool} (hL : Lst md ops N) (hc : Clo md ops listed) (h : N ∈ Region.ready md ops listed) (n : Nat) : ∀ j, j < ops.size → ops.size - j ≤ n → j ≠ N → listed.getD j false = true := by
  induction n with
  | zero => intro j hj hn; omega
  | succ n ih =>
    intro j hj hn hne
    obtain ⟨k, o, ho, hjk, e, he, hb, hon⟩ := hL.fwd j hj hne
    have hk : k < ops.size := (Array.getElem?_eq_some_iff.1 ho).1
    by_cases hkN : k = N
    · obtain ⟨_, o', ho', hall⟩ := mem_ready.1 h
      rw [← hkN, ho] at ho'
      injection ho' with ho'
      have := hall e (ho' ▸ he) hb
      rw [hon] at this; exact this
    · have hl := ih k hk (by omega) hkN
      have := hc.2 k o ho (by rw [getDs (by rw [hc.1]; exact hk) true false]; exact hl) e he hb
      rw [hon] at this; exact this
theorem Clo.step {listed : Array Bool} {i : Nat} (hc : Clo md ops listed) (h : i ∈ Region.ready md ops listed) : Clo md ops (listed.setIfInBounds i true) := by
  refine ⟨by simp [hc.1], fun k o ho hk e he hb => ?_⟩
  by_cases hki : k = i
  · subst hki
    obtain ⟨_, o', ho', hall⟩ := mem_ready.1 h
    rw [ho] at ho'
    injection ho' with ho'
    exact getD_set_true (hall e (ho' ▸ he) hb)
  · rw [getD_set_ne true (Ne.symm hki)] at hk
    exact getD_set_true (hc.2 k o ho hk e he hb)
theorem Clo.start : Clo md ops (Array.replicate ops.size false) := by
  refine ⟨by simp, fun k o ho hk => ?_⟩
  have hlt : k < ops.size := (Array.getElem?_eq_some_iff.1 ho).1
  simp [Array.getD, hlt] at hk
theorem upon_exits {Q Q' : Exit → Act → World → Prop} (hp : ∀ c a w, Q' (.panic c) a w → Q (.panic c) a w) (hl : LetsOut Q' → LetsOut Q) {o : Oper} {a : Act} {w : World} {K : Act → World → Prop} (h : o.wp P a w K Q') : o.wp P a w K Q := by
  unfold Oper.wp at *
  generalize (execOp a.eval o).run P w = r at *
  cases r with
  | ok n w' =>
    cases n <;> simp only [Oper.upon] at h ⊢ <;>
      first
        | exact h
        | exact Calls.mono h (fun e w'' he => by cases e <;> first | exact he | exact hp _ _ _ he | exact hl he)
        | exact Rows.mono h (fun _ _ he => he)
  | halt x w' => cases x <;> simp only [Oper.upon] at h ⊢ <;> first | exact h | exact hp _ _ _ h
theorem wpAny_last {N : Nat} {o : Oper} (hN : ops[N]? = some o) (hd : o.dst = none) (hg : o.guard = none) (hL : Lst md ops N) :
    ∀ (fuel : Nat) (listed : Array Bool) (a : Act) (w : World), Clo md ops listed → listed.getD N true = false →
      wpAny P md (ops.setIfInBounds N (idleO o)) (lastQ P o Q) fuel listed a w → wpAny P md ops Q fuel listed a w := by
  have hNs : N < ops.size := (Array.getElem?_eq_some_iff.1 hN).1
  have hother : ∀ i, i ≠ N → (ops.setIfInBounds N (idleO o))[i]? = ops[i]? := fun i hi => by
    rw [Array.getElem?_setIfInBounds]; simp [Ne.symm hi]
  have hself : (ops.setIfInBounds N (idleO o))[N]? = some (idleO o) := by
    rw [Array.getElem?_setIfInBounds]; simp [hNs]
  have hr : ∀ listed, Region.ready md (ops.setIfInBounds N (idleO o)) listed = Region.ready md ops listed := fun listed => by
    unfold Region.ready
    rw [Array.size_setIfInBounds]
    apply List.filter_congr
    intro i hi
    by_cases h : i = N
    · subst h; rw [hself, hN]; rfl
    · rw [hother i h]
  have hyl : ∀ t, yielded (ops.setIfInBounds N (idleO o)) t = yielded ops t := fun t => by
    funext j
    unfold yielded
    by_cases h : j = N
    · subst h; rw [hself, hN]; simp [idleO, hd]
    · rw [hother j h]
  have hlet : LetsOut (lastQ P o Q) → LetsOut Q := fun ⟨a, w, h⟩ => ⟨a, w, h⟩
  intro fuel
  induction fuel with
  | zero =>
    intro listed a w hc hu h
    exfalso
    have h0 : Region.ready md ops listed = [] := by rw [← hr]; exact h.1
    have := hc.none hL h0 N hNs
    rw [getDs (by rw [hc.1]; exact hNs) false true, hu] at this
    cases this
  | succ fuel ih =>
    intro listed a w hc hu h
    refine ⟨fun h0 => ?_, fun i hi => ?_⟩
    · exfalso
      have := hc.none hL h0 N hNs
      rw [getDs (by rw [hc.1]; exact hNs) false true, hu] at this
      cases this
    · have h2 := h.2 i (by rw [hr]; exact hi)
      by_cases hiN : i = N
      · subst hiN
        have hdone : Region.ready md ops (listed.setIfInBounds i true) = [] := by
          rw [List.eq_nil_iff_forall_not_mem]
          intro j hj
          obtain ⟨hju, oj, hoj, _⟩ := mem_ready.1 hj
          have hjs : j < ops.size := (Array.getElem?_eq_some_iff.1 hoj).1
          by_cases hji : j = i
          · subst hji
            simp [Array.getD, hc.1, hjs] at hju
          · rw [getD_set_ne true (Ne.symm hji)] at hju
            have := hc.last hL hi (ops.size) j hjs (by omega) hji
            rw [getDs (by rw [hc.1]; exact hjs) false true, hju] at this
            cases this
        unfold wpOp at h2 ⊢
        rw [hself] at h2
        rw [hN]
        have w1 : ∀ y, Region.wanted o y = true := fun y => by unfold Region.wanted; rw [hg]
        have w2 : ∀ y, Region.wanted (idleO o) y = true := fun y => by unfold Region.wanted idleO; simp only [hg]
        simp only [w1, w2, if_true] at h2 ⊢
        have hex : ∀ w : World, (execOp a.eval (idleO o)).run P w = .ok (.value (.bool true)) w := fun w => rfl
        rcases h2 with h2 | ⟨h2, h3⟩
        · refine .inl ?_
          unfold Oper.wp at h2
          rw [hex w] at h2
          simp only [Oper.upon] at h2
          have e1 : a.put (idleO o).dst (.bool true) = a := by simp [idleO, hd, Act.put]
          rw [e1] at h2
          have hq : lastQ P o Q .normal a w := by
            cases fuel with
            | zero => exact h2.2
            | succ n => exact h2.1 (by rw [hr]; exact hdone)
          refine Oper.wp_mono (fun a' w' hq => ?_) hq
          cases fuel with
          | zero => exact ⟨hdone, hq⟩
          | succ n => exact ⟨fun _ => hq, by rw [hdone]; simp⟩
        · exact .inr ⟨by
            exfalso
            obtain ⟨h4, h5⟩ := h2
            have : ((execOp a.eval (idleO o)).runT P w #[]).2 = #[] := rfl
            rw [this] at h4; simp at h4, hlet h3⟩
      · have hu' : (listed.setIfInBounds i true).getD N true = false := by rw [getD_set_ne true hiN]; exact hu
        have hstep := wpOp_mono (fun a' w' h' => ih _ a' w' (hc.step hi) hu' h') h2
        unfold wpOp at hstep ⊢
        rw [hother i hiN] at hstep
        cases ho : ops[i]? with
        | none => rw [ho] at hstep; exact hstep
        | some oi =>
          rw [ho] at hstep
          simp only [hyl] at hstep ⊢
          split
          · rename_i hw
            simp only [hw, if_true] at hstep
            rcases hstep with h' | ⟨h', h''⟩
            · exact .inl (upon_exits (fun _ _ _ h => h) hlet h')
            · exact .inr ⟨h', hlet h''⟩
          · rename_i hw
            simp only [hw] at hstep
            exact hstep
end
theorem wpAny_exact {P : Program} {ops : Array Oper} {Q : Exit → Act → World → Prop} {id : Nat} {S : World → Prop} {N n : Nat} {o : Oper} {ops' : Array Oper} {a : Act} {w : World} (hm : P.follows .mixedOrders = true) (hN : ops[N]? = some o) (hd : o.dst = none) (hg : o.guard = none) (hL : lastB .any ops N = true) (hn : ops.size = n) (he : ops.setIfInBounds N (idleO o) = ops') (hS : S w.drew)
    (h : S w.drew → wpAnyH P .any ops' (lastQ P o Q) S n (Array.replicate n false) a w.drew) : (Code.region id ops true).wp P Q a w := by
  subst hn he
  have hNs : N < ops.size := (Array.getElem?_eq_some_iff.1 hN).1
  refine wp_region_any hm (wpAny_last hN hd hg (lst_of hL) _ _ _ _ Clo.start (by simp [Array.getD, hNs]) (wpAny_of_held _ _ _ _ (h hS)))
end Go.Proofs.YtcogkhcfpgelhaaGreat
