import Derived.Orders
import Derived.Deep.RegionHeld3
import Derived.Test.YtcogkhcfpgelhabGreatWxah
import Derived.Test.YtcogkhcfpgelhabGreatWxak
namespace Go.Proofs.YtcogkhcfpgelhabGreat
open Go
set_option linter.unusedVariables false
/-! ### A region whose last operation is taken off: the rest is a region by itself -/
section
variable {P : Program} {ops : Array Oper} {Q : Exit → Act → World → Prop} {md : Region.Mode}
/-- Whatever is waited for stands ahead; and each operation but number N has one behind it that waits for it. -/
def lastB (md : Region.Mode) (ops : Array Oper) (N : Nat) : Bool :=
  ((List.range ops.size).all fun k => ((ops[k]?).map (·.after.all fun e => !Region.binds md e || decide (e.on < k))).getD true) &&
  ((List.range ops.size).all fun j => j == N || (List.range ops.size).any fun k => decide (j < k) && ((ops[k]?).map (·.after.any fun e => Region.binds md e && e.on == j)).getD false)
/-- What is behind the last one. -/
def lastQ (P : Program) (o : Oper) (Q : Exit → Act → World → Prop) : Exit → Act → World → Prop
  | .normal, a, w => o.wp P a w (fun a w => Q .normal a w) Q
  | e, a, w => Q e a w
def idleO (o : Oper) : Oper := { o with op := .move (.const (.bool true)) }
structure Lst (md : Region.Mode) (ops : Array Oper) (N : Nat) : Prop where
  back : ∀ k o, ops[k]? = some o → ∀ e ∈ o.after, Region.binds md e = true → e.on < k
  fwd : ∀ j, j < ops.size → j ≠ N → ∃ k o, ops[k]? = some o ∧ j < k ∧ ∃ e ∈ o.after, Region.binds md e = true ∧ e.on = j
theorem lst_of {N : Nat} (h : lastB md ops N = true) : Lst md ops N := by
  unfold lastB at h
  rw [Bool.and_eq_true, List.all_eq_true, List.all_eq_true] at h
  refine ⟨fun k o ho e he hb => ?_, fun j hj hne => ?_⟩
  · have hk : k < ops.size := (Array.getElem?_eq_some_iff.1 ho).1
    have := h.1 k (List.mem_range.2 hk)
    rw [ho] at this
    simp only [Option.map_some, Option.getD_some, Array.all_eq_true_iff_forall_mem] at this
    have := this e he
    rw [hb] at this
    simpa using this
  · have := h.2 j (List.mem_range.2 hj)
    rw [Bool.or_eq_true] at this
    rcases this with h' | h'
    · exact absurd (by simpa using h') hne
    · rw [List.any_eq_true] at h'
      obtain ⟨k, hk, h'⟩ := h'
      rw [Bool.and_eq_true] at h'
      cases ho : ops[k]? with
      | none => rw [ho] at h'; simp at h'
      | some o =>
        rw [ho] at h'
        simp only [decide_eq_true_eq, Option.map_some, Option.getD_some] at h'
        obtain ⟨h1, h2⟩ := h'
        obtain ⟨e, he, h3⟩ := Array.any_eq_true'.1 h2
        rw [Bool.and_eq_true] at h3
        exact ⟨k, o, ho, h1, e, he, h3.1, by simpa using h3.2⟩
/-- What came up is closed: whatever came up waited for nothing that did not. -/
def Clo (md : Region.Mode) (ops : Array Oper) (listed : Array Bool) : Prop := listed.size = ops.size ∧ ∀ k o, ops[k]? = some o → listed.getD k true = true → ∀ e ∈ o.after, Region.binds md e = true → listed.getD e.on false = true
theorem getDs {l : Array Bool} {i : Nat} (h : i < l.size) (b c : Bool) : l.getD i b = l.getD i c := by simp [Array.getD, h]
theorem Clo.none {N : Nat} {listed : Array Bool} (hL : Lst md ops N) (hc : Clo md ops listed) (h : Region.ready md ops listed = []) (k : Nat) : k < ops.size → listed.getD k false = true := by
  induction k using Nat.strongRecOn with
  | _ k ih =>
    intro hk
    cases hd : listed.getD k false with
    | true => rfl
    | false =>
      exfalso
      have ho : ops[k]? = some ops[k] := Array.getElem?_eq_getElem hk
      have : k ∈ Region.ready md ops listed := by
        rw [mem_ready]
        refine ⟨by rw [getDs (by rw [hc.1]; exact hk) true false]; exact hd, ops[k], ho, fun e he hb => ?_⟩
        have hlt := hL.back k _ ho e he hb
        exact ih e.on hlt (by omega)
      rw [h] at this
      cases this
theorem Clo.last {N : Nat} {listed : Array Bool} (hL : Lst md ops N) (hc : Clo md ops listed) (h : N ∈ Region.ready md ops listed) (n : Nat) : ∀ j, j < ops.size → ops.size - j ≤ n → j ≠ N → listed.getD j false = true := by
  induction n with
  | zero => intro j hj hn; omega
  | succ n ih =>
    intro j hj hn hne
    obtain ⟨k, o, ho, hjk, e, he, hb, hon⟩ := hL.fwd j hj hne
    have hk : k < ops.size := (Array.getElem?_eq_some_iff.1 ho).1
    by_cases hkN : k = N
    · obtain ⟨_, o', ho', hall⟩ := mem_ready.1 h
      rw [← hkN, ho] at ho'
      injection ho' with ho'
      have := hall e (ho' ▸ he) hb
      rw [hon] at this; exact this
    · have hl := ih k hk (by omega) hkN
      have := hc.2 k o ho (by rw [getDs (by rw [hc.1]; exact hk) true false]; exact hl) e he hb
      rw [hon] at this; exact this
theorem Clo.step {listed : Array Bool} {i : Nat} (hc : Clo md ops listed) (h : i ∈ Region.ready md ops listed) : Clo md ops (listed.setIfInBounds i true) := by
  refine ⟨by simp [hc.1], fun k o ho hk e he hb => ?_⟩
  by_cases hki : k = i
  · subst hki
    obtain ⟨_, o', ho', hall⟩ := mem_ready.1 h
    rw [ho] at ho'
    injection ho' with ho'
    exact getD_set_true (hall e (ho' ▸ he) hb)
  · rw [getD_set_ne true (Ne.symm hki)] at hk
    exact getD_set_true (hc.2 k o ho hk e he hb)
theorem Clo.start : Clo md ops (Array.replicate ops.size false) := by
  refine ⟨by simp, fun k o ho hk => ?_⟩
  have hlt : k < ops.size := (Array.getElem?_eq_some_iff.1 ho).1
  simp [Array.getD, hlt] at hk
theorem upon_exits {Q Q' : Exit → Act → World → Prop} (hp : ∀ c a w, Q' (.panic c) a w → Q (.panic c) a w) (hl : LetsOut Q' → LetsOut Q) {o : Oper} {a : Act} {w : World} {K : Act → World → Prop} (h : o.wp P a w K Q') : o.wp P a w K Q := by
  unfold Oper.wp at *
  generalize (execOp a.eval o).run P w = r at *
  cases r with
  | ok n w' =>
    cases n <;> simp only [Oper.upon] at h ⊢ <;>
      first
        | exact h
        | exact Calls.mono h (fun e w'' he => by cases e <;> first | exact he | exact hp _ _ _ he | exact hl he)
        | exact Rows.mono h (fun _ _ he => he)
  | halt x w' => cases x <;> simp only [Oper.upon] at h ⊢ <;> first | exact h | exact hp _ _ _ h
theorem wpAny_last {N : Nat} {o : Oper} (hN : ops[N]? = some o) (hd : o.dst = none) (hg : o.guard = none) (hL : Lst md ops N) :
    ∀ (fuel : Nat) (listed : Array Bool) (a : Act) (w : World), Clo md ops listed → listed.getD N true = false →
      wpAny P md (ops.setIfInBounds N (idleO o)) (lastQ P o Q) fuel listed a w → wpAny P md ops Q fuel listed a w := by
  have hNs : N < ops.size := (Array.getElem?_eq_some_iff.1 hN).1
  have hother : ∀ i, i ≠ N → (ops.setIfInBounds N (idleO o))[i]? = ops[i]? := fun i hi => by
    rw [Array.getElem?_setIfInBounds]; simp [Ne.symm hi]
  have hself : (ops.setIfInBounds N (idleO o))[N]? = some (idleO o) := by
    rw [Array.getElem?_setIfInBounds]; simp [hNs]
  have hr : ∀ listed, Region.ready md (ops.setIfInBounds N (idleO o)) listed = Region.ready md ops listed := fun listed => by
    unfold Region.ready
    rw [Array.size_setIfInBounds]
    apply List.filter_congr
    intro i hi
    by_cases h : i = N
    · subst h; rw [hself, hN]; rfl
    · rw [hother i h]
  have hyl : ∀ t, yielded (ops.setIfInBounds N (idleO o)) t = yielded ops t := fun t => by
    funext j
    unfold yielded
    by_cases h : j = N
    · subst h; rw [hself, hN]; simp [idleO, hd]
    · rw [hother j h]
  have hlet : LetsOut (lastQ P o Q) → LetsOut Q := fun ⟨a, w, h⟩ => ⟨a, w, h⟩
  intro fuel
  induction fuel with
  | zero =>
    intro listed a w hc hu h
    exfalso
    have h0 : Region.ready md ops listed = [] := by rw [← hr]; exact h.1
    have := hc.none hL h0 N hNs
    rw [getDs (by rw [hc.1]; exact hNs) false true, hu] at this
    cases this
  | succ fuel ih =>
    intro listed a w hc hu h
    refine ⟨fun h0 => ?_, fun i hi => ?_⟩
    · exfalso
      have := hc.none hL h0 N hNs
      rw [getDs (by rw [hc.1]; exact hNs) false true, hu] at this
      cases this
    · have h2 := h.2 i (by rw [hr]; exact hi)
      by_cases hiN : i = N
      · subst hiN
        have hdone : Region.ready md ops (listed.setIfInBounds i true) = [] := by
          rw [List.eq_nil_iff_forall_not_mem]
          intro j hj
          obtain ⟨hju, oj, hoj, _⟩ := mem_ready.1 hj
          have hjs : j < ops.size := (Array.getElem?_eq_some_iff.1 hoj).1
          by_cases hji : j = i
          · subst hji
            simp [Array.getD, hc.1, hjs] at hju
          · rw [getD_set_ne true (Ne.symm hji)] at hju
            have := hc.last hL hi (ops.size) j hjs (by omega) hji
            rw [getDs (by rw [hc.1]; exact hjs) false true, hju] at this
            cases this
        unfold wpOp at h2 ⊢
        rw [hself] at h2
        rw [hN]
        have w1 : ∀ y, Region.wanted o y = true := fun y => by unfold Region.wanted; rw [hg]
        have w2 : ∀ y, Region.wanted (idleO o) y = true := fun y => by unfold Region.wanted idleO; simp only [hg]
        simp only [w1, w2, if_true] at h2 ⊢
        have hex : ∀ w : World, (execOp a.eval (idleO o)).run P w = .ok (.value (.bool true)) w := fun w => rfl
        rcases h2 with h2 | ⟨h2, h3⟩
        · refine .inl ?_
          unfold Oper.wp at h2
          rw [hex w] at h2
          simp only [Oper.upon] at h2
          have e1 : a.put (idleO o).dst (.bool true) = a := by simp [idleO, hd, Act.put]
          rw [e1] at h2
          have hq : lastQ P o Q .normal a w := by
            cases fuel with
            | zero => exact h2.2
            | succ n => exact h2.1 (by rw [hr]; exact hdone)
          refine Oper.wp_mono (fun a' w' hq => ?_) hq
          cases fuel with
          | zero => exact ⟨hdone, hq⟩
          | succ n => exact ⟨fun _ => hq, by rw [hdone]; simp⟩
        · exact .inr ⟨by
            exfalso
            obtain ⟨h4, h5⟩ := h2
            have : ((execOp a.eval (idleO o)).runT P w #[]).2 = #[] := rfl
            rw [this] at h4; simp at h4, hlet h3⟩
      · have hu' : (listed.setIfInBounds i true).getD N true = false := by rw [getD_set_ne true hiN]; exact hu
        have hstep := wpOp_mono (fun a' w' h' => ih _ a' w' (hc.step hi) hu' h') h2
        unfold wpOp at hstep ⊢
        rw [hother i hiN] at hstep
        cases ho : ops[i]? with
        | none => rw [ho] at hstep; exact hstep
        | some oi =>
          rw [ho] at hstep
          simp only [hyl] at hstep ⊢
          split
          · rename_i hw
            simp only [hw, if_true] at hstep
            rcases hstep with h' | ⟨h', h''⟩
            · exact .inl (upon_exits (fun _ _ _ h => h) hlet h')
            · exact .inr ⟨h', hlet h''⟩
          · rename_i hw
            simp only [hw] at hstep
            exact hstep
end
theorem wpAny_exact {P : Program} {ops : Array Oper} {Q : Exit → Act → World → Prop} {id : Nat} {S : World → Prop} {N n : Nat} {o : Oper} {ops' : Array Oper} {a : Act} {w : World} (hm : P.follows .mixedOrders = true) (hN : ops[N]? = some o) (hd : o.dst = none) (hg : o.guard = none) (hL : lastB .any ops N = true) (hn : ops.size = n) (he : ops.setIfInBounds N (idleO o) = ops') (hS : S w.drew)
    (h : S w.drew → wpAnyH P .any ops' (lastQ P o Q) S n (Array.replicate n false) a w.drew) : (Code.region id ops true).wp P Q a w := by
  subst hn he
  have hNs : N < ops.size := (Array.getElem?_eq_some_iff.1 hN).1
  refine wp_region_any hm (wpAny_last hN hd hg (lst_of hL) _ _ _ _ Clo.start (by simp [Array.getD, hNs]) (wpAny_of_held _ _ _ _ (h hS)))
end Go.Proofs.YtcogkhcfpgelhabGreat

namespace Go.Proofs.YtcogkhcfpgelhabGreat
open Go.RowKit
set_option linter.unusedVariables false
set_option linter.unusedSimpArgs false
set_option maxRecDepth 100000
variable {fb mb : Nat} {ot : Option Nat} {L : Int → Lay} {h : Hx} {q : Int → Option Pn} {cnt : Nat} {T : List Ac} {w w' : World} {X : Nat → Prop}
theorem iret {R : Ending → World → Prop} {a : Act} {w : World} {row : Array Value} (rs : Nat) (h2 : a.tmps.getD 2 undef = .pointer (some ⟨rs, 0, none⟩)) (hrow : w.heap[rs]? = some (.cells row 24)) (hsz : row.size = 4) (hd : a.defers = []) (hR : R (.returned (.agg row)) w) : bodyPost Tryz.prog Tryz.f13 R .ret a w := by
  have hi : (Tryz.prog.info? 24).map (·.size) = some row.size := by rw [hsz]; kernel_rfl
  have hl := run_loadVar_row (P := Tryz.prog) w rs 24 24 row (0, 0) _ hrow Tryz.underlying24 rfl hi
  have hp2 : a.tmps[2]?.getD undef = .pointer (some ⟨rs, 0, none⟩) := by simpa using h2
  refine bodyPost_ret ?_ hd hR
  simp [results, hp2, asAddr, hl]
theorem stoV_slice (w : World) (g o : Nat) (x : Option Addr) (n c : Nat) (old : Value) (hc : w.cell? ⟨g, o, none⟩ = some old) (hf : w.frozen? ⟨g, o, none⟩ = false) : (stoV 22 (.pointer (some ⟨g, o, none⟩)) (.slice x n c)).run Tryz.prog w = .ok () (w.setCell ⟨g, o, none⟩ (.slice x n c)) := by
  have hi : (Tryz.prog.info? 22).map (·.size) = some 1 := by kernel_rfl
  have hadd : (⟨g, o, none⟩ : Addr).add 0 = ⟨g, o, none⟩ := by unfold Addr.add; split <;> simp_all
  unfold stoV
  simp only [Instr.storeAt, Instr.sureAddr, Sem.run_bind, Sem.run_pure, Result.andThen_ok]
  cases hq : Tryz.prog.info? 22 with
  | none => simp [hq] at hi
  | some i =>
    have hz : i.size = 1 := by simpa [hq] using hi
    simp [storeVar, sizeOf, typeInfo, hq, Value.cells, hz, storeCells, hadd, run_store (P := Tryz.prog) (w := w) (v := .slice x n c) (hv := rfl), hc, hf, Sem.run_bind, Sem.run_pure]
/-- The world behind Image's first statement. -/
def imW (w : World) (h : Hx) : World := (((w.alloc (.cells imZ 24)).alloc (.cells imZ 24)).drew).setRow (w.heap.size + 1) (imC h (.slice none 0 0))
theorem imW_row (w : World) : (((w.alloc (.cells imZ 24)).alloc (.cells imZ 24)).drew).heap[w.heap.size + 1]? = some (.cells imZ 24) := by
  have := nh (w.alloc (.cells imZ 24)) (.cells imZ 24)
  have e : (w.alloc (.cells imZ 24)).heap.size = w.heap.size + 1 := by simp
  rw [e] at this
  exact this
theorem imW_st (w : World) (h : Hx) : (stoV 24 (.pointer (some ⟨w.heap.size + 1, 0, none⟩)) (.agg (imC h (.slice none 0 0)))).run Tryz.prog ((w.alloc (.cells imZ 24)).alloc (.cells imZ 24)).drew = .ok () (imW w h) := stoV_row _ _ 24 24 imZ _ (imW_row w) (by kernel_rfl) rfl (by simp [Value.oneCell'])
theorem imW_nw (w : World) (h : Hx) : Nw (w.alloc (.cells imZ 24)) (imW w h) := (((Fr.refl _ _).alloc _).drew).setRow _ _ (.inr (by simp))
theorem imW_im (w : World) (h : Hx) : Im0 w h (imW w h) := by
  refine ⟨((Fr.refl _ _).alloc _).trans (imW_nw w h), (imW_nw w h).heap (nh w _), ?_, by simp [imW, World.setRow]⟩
  exact setRow_heap _ (w.heap.size + 1) _ _ 24 _ (imW_row w)
-- OPS
def im6o : Oper := { dst := none, op := Op.store 22 (Operand.tmp 62) (Operand.tmp 61), type := 0, pos := "image.go:45", after := #[{ on := 25, ground := Ground.data }, { on := 24, ground := Ground.data }, { on := 24, ground := Ground.chain }, { on := 0, ground := Ground.phase }, { on := 1, ground := Ground.phase }, { on := 2, ground := Ground.phase }, { on := 3, ground := Ground.phase }, { on := 4, ground := Ground.phase }, { on := 5, ground := Ground.phase }, { on := 6, ground := Ground.phase }, { on := 7, ground := Ground.phase }, { on := 8, ground := Ground.phase }, { on := 9, ground := Ground.phase }, { on := 10, ground := Ground.phase }, { on := 11, ground := Ground.phase }, { on := 12, ground := Ground.phase }, { on := 13, ground := Ground.phase }, { on := 14, ground := Ground.phase }, { on := 15, ground := Ground.phase }, { on := 16, ground := Ground.phase }, { on := 17, ground := Ground.phase }, { on := 18, ground := Ground.phase }, { on := 19, ground := Ground.phase }, { on := 20, ground := Ground.phase }, { on := 21, ground := Ground.phase }, { on := 22, ground := Ground.phase }, { on := 23, ground := Ground.phase }, { on := 24, ground := Ground.phase }], guard := none }
def im6 : Array Oper := #[{ dst := some 37, op := Op.fieldAddr 24 (Operand.tmp 3) 3, type := 0, pos := "image.go:45", after := #[], guard := none },
  { dst := some 38, op := Op.load 22 (Operand.tmp 37), type := 22, pos := "image.go:45", after := #[{ on := 0, ground := Ground.data }], guard := none },
  { dst := some 39, op := Op.move (Operand.tmp 5), type := 3, pos := "image.go:45", after := #[], guard := none },
  { dst := some 40, op := Op.move (Operand.tmp 6), type := 88, pos := "image.go:45", after := #[], guard := none },
  { dst := some 41, op := Op.nilCheck (Operand.tmp 40), type := 0, pos := "image.go:45", after := #[{ on := 3, ground := Ground.data }], guard := none },
  { dst := some 42, op := Op.fieldAddr 91 (Operand.tmp 41) 0, type := 0, pos := "image.go:45", after := #[{ on := 4, ground := Ground.data }], guard := none },
  { dst := some 43, op := Op.load 3 (Operand.tmp 42), type := 3, pos := "image.go:45", after := #[{ on := 5, ground := Ground.data }], guard := none },
  { dst := some 44, op := Op.move (Operand.tmp 6), type := 88, pos := "image.go:45", after := #[], guard := none },
  { dst := some 45, op := Op.nilCheck (Operand.tmp 44), type := 0, pos := "image.go:45", after := #[{ on := 7, ground := Ground.data }], guard := none },
  { dst := some 46, op := Op.fieldAddr 91 (Operand.tmp 45) 1, type := 0, pos := "image.go:45", after := #[{ on := 8, ground := Ground.data }], guard := none },
  { dst := some 47, op := Op.load 37 (Operand.tmp 46), type := 37, pos := "image.go:45", after := #[{ on := 9, ground := Ground.data }], guard := none },
  { dst := some 48, op := Op.move (Operand.tmp 6), type := 88, pos := "image.go:45", after := #[], guard := none },
  { dst := some 49, op := Op.nilCheck (Operand.tmp 48), type := 0, pos := "image.go:45", after := #[{ on := 11, ground := Ground.data }], guard := none },
  { dst := some 50, op := Op.fieldAddr 91 (Operand.tmp 49) 2, type := 0, pos := "image.go:45", after := #[{ on := 12, ground := Ground.data }], guard := none },
  { dst := some 51, op := Op.load 38 (Operand.tmp 50), type := 38, pos := "image.go:45", after := #[{ on := 13, ground := Ground.data }], guard := none },
  { dst := some 52, op := Op.call { callee := Callee.value (Operand.func 40), args := #[Operand.tmp 51], argTypes := #[38] }, type := 38, pos := "image.go:47", after := #[{ on := 14, ground := Ground.data }], guard := none },
  { dst := some 53, op := Op.move (Operand.tmp 6), type := 88, pos := "image.go:45", after := #[], guard := none },
  { dst := some 54, op := Op.nilCheck (Operand.tmp 53), type := 0, pos := "image.go:45", after := #[{ on := 16, ground := Ground.data }], guard := none },
  { dst := some 55, op := Op.fieldAddr 91 (Operand.tmp 54) 3, type := 0, pos := "image.go:45", after := #[{ on := 17, ground := Ground.data }], guard := none },
  { dst := some 56, op := Op.load 9 (Operand.tmp 55), type := 9, pos := "image.go:45", after := #[{ on := 18, ground := Ground.data }], guard := none },
  { dst := some 57, op := Op.move (Operand.tmp 6), type := 88, pos := "image.go:45", after := #[], guard := none },
  { dst := some 58, op := Op.call { callee := Callee.value (Operand.func 41), args := #[Operand.tmp 57], argTypes := #[88] }, type := 42, pos := "image.go:47", after := #[{ on := 20, ground := Ground.data }, { on := 15, ground := Ground.chain }], guard := none },
  { dst := some 59, op := Op.build 44 #[(0, Operand.tmp 39), (1, Operand.tmp 43), (2, Operand.tmp 47), (3, Operand.tmp 52), (4, Operand.tmp 56), (5, Operand.tmp 58)], type := 44, pos := "image.go:45", after := #[{ on := 2, ground := Ground.data }, { on := 6, ground := Ground.data }, { on := 10, ground := Ground.data }, { on := 15, ground := Ground.data }, { on := 19, ground := Ground.data }, { on := 21, ground := Ground.data }], guard := none },
  { dst := some 60, op := Op.buildSlice 22 1 #[(0, Operand.tmp 59)], type := 22, pos := "image.go:45", after := #[{ on := 22, ground := Ground.data }], guard := none },
  { dst := some 61, op := Op.call { callee := Callee.builtin Builtin.append, args := #[Operand.tmp 38, Operand.tmp 60], argTypes := #[22, 22] }, type := 22, pos := "image.go:45", after := #[{ on := 1, ground := Ground.data }, { on := 23, ground := Ground.data }, { on := 21, ground := Ground.chain }], guard := none },
  { dst := some 62, op := Op.fieldAddr 24 (Operand.tmp 3) 3, type := 0, pos := "image.go:45", after := #[{ on := 0, ground := Ground.phase }, { on := 1, ground := Ground.phase }, { on := 2, ground := Ground.phase }, { on := 3, ground := Ground.phase }, { on := 4, ground := Ground.phase }, { on := 5, ground := Ground.phase }, { on := 6, ground := Ground.phase }, { on := 7, ground := Ground.phase }, { on := 8, ground := Ground.phase }, { on := 9, ground := Ground.phase }, { on := 10, ground := Ground.phase }, { on := 11, ground := Ground.phase }, { on := 12, ground := Ground.phase }, { on := 13, ground := Ground.phase }, { on := 14, ground := Ground.phase }, { on := 15, ground := Ground.phase }, { on := 16, ground := Ground.phase }, { on := 17, ground := Ground.phase }, { on := 18, ground := Ground.phase }, { on := 19, ground := Ground.phase }, { on := 20, ground := Ground.phase }, { on := 21, ground := Ground.phase }, { on := 22, ground := Ground.phase }, { on := 23, ground := Ground.phase }, { on := 24, ground := Ground.phase }], guard := none },
  { dst := none, op := Op.move (Operand.const (.bool true)), type := 0, pos := "image.go:45", after := #[{ on := 25, ground := Ground.data }, { on := 24, ground := Ground.data }, { on := 24, ground := Ground.chain }, { on := 0, ground := Ground.phase }, { on := 1, ground := Ground.phase }, { on := 2, ground := Ground.phase }, { on := 3, ground := Ground.phase }, { on := 4, ground := Ground.phase }, { on := 5, ground := Ground.phase }, { on := 6, ground := Ground.phase }, { on := 7, ground := Ground.phase }, { on := 8, ground := Ground.phase }, { on := 9, ground := Ground.phase }, { on := 10, ground := Ground.phase }, { on := 11, ground := Ground.phase }, { on := 12, ground := Ground.phase }, { on := 13, ground := Ground.phase }, { on := 14, ground := Ground.phase }, { on := 15, ground := Ground.phase }, { on := 16, ground := Ground.phase }, { on := 17, ground := Ground.phase }, { on := 18, ground := Ground.phase }, { on := 19, ground := Ground.phase }, { on := 20, ground := Ground.phase }, { on := 21, ground := Ground.phase }, { on := 22, ground := Ground.phase }, { on := 23, ground := Ground.phase }, { on := 24, ground := Ground.phase }], guard := none }]
-- OPS END
/-- What Image answers. -/
def ImO (w : World) (h : Hx) (N : List Nd) (e : Ending) (w' : World) : Prop := ∃ a n c l, e = .returned (.agg (imC h (.slice a n c))) ∧ ImI w (.slice a n c) l w' ∧ l.map Nq.x = N ∧ l.length = n
section
attribute [local go_sem ↓] stoV_fold appV_fold
set_option maxHeartbeats 16000000 in
theorem image_any (H : FsH fb mb ot L h q cnt T w) {es : List (Int × Nat)} (hE : Ents MI (fun k => (q k).map fun _ => (L k).ib) cnt es) (hs : (es.map Prod.fst).Pairwise (fun a b => a < b)) (hcnt : cnt ≤ 1000000) (hne : es ≠ []) {eL : Int → List (Tx × Int)} (hI : ImH q eL) :
    Calls Tryz.prog 13 #[.pointer (some ⟨fb, 0, none⟩)] w (ImO w h ((es.map Prod.fst).map (ndq q eL))) := by
  obtain ⟨P, hP⟩ : ∃ P : Ending → World → Prop, P = ImO w h ((es.map Prod.fst).map (ndq q eL)) := ⟨_, rfl⟩
  rw [← hP]
  have hC := H.cs
  have hN1 : Nw w (w.alloc (.cells imZ 24)) := (Fr.refl _ _).alloc _
  have HSA : Hid (∀ U, Nw (w.alloc (.cells imZ 24)) U → U.cell? ⟨fb, 1, none⟩ = some (.int .i64 h.nodes) ∧ U.cell? ⟨fb, 2, none⟩ = some (.int .i64 h.bytes) ∧ U.cell? ⟨fb, 4, none⟩ = some (.int .i64 h.next)) := fun U hU => ⟨(hN1.trans hU).cell hC.c1, (hN1.trans hU).cell hC.c2, (hN1.trans hU).cell hC.c4⟩
  have HPE := tHid hP
  have HH := tHid H
  have HEE := tHid hE
  have HSS := tHid hs
  have HII := tHid hI
  have HNE := tHid hne
  clear hP hE hs hI hne hN1 hC H
  have st1 : (stoV 24 (.pointer (some ⟨w.heap.size + 1, 0, none⟩)) (.agg (imC h (.slice none 0 0)))).run Tryz.prog ((w.alloc (.cells imZ 24)).alloc (.cells imZ 24)).drew = .ok () (imW w h) := imW_st w h
  have st2 : (stoV 24 (.pointer (some ⟨w.heap.size + 1, 0, none⟩)) (.agg (imC h (.slice none 0 0)))).run Tryz.prog ((w.alloc (.cells imZ 24)).drew.alloc (.cells imZ 24)) = .ok () (imW w h) := imW_st w h
  go_enter Tryz.func13, Tryz.ntmps13
  go_upto_region 1 with fail
  go_cut [3] (fun v wx => v = .pointer (some ⟨w.heap.size + 1, 0, none⟩) ∧ Hid (Im0 w h wx))
  case first =>
    go_region_held3 (fun U => U.cell? ⟨fb, 1, none⟩ = some (.int .i64 h.nodes) ∧ U.cell? ⟨fb, 2, none⟩ = some (.int .i64 h.bytes) ∧ U.cell? ⟨fb, 4, none⟩ = some (.int .i64 h.next))
      (first | exact HSA.out _ (imW_nw w h) | exact HSA.out _ (by repeat (first | exact Fr.refl _ _ | apply Fr.drew | apply Fr.drewN | apply Fr.alloc)))
      (fail)
    all_goals go_wp2_with fail
    all_goals go_meet
    all_goals exact ⟨rfl, imW_im w h⟩
  case rest =>
  obtain ⟨rfl, H0⟩ := hcut
  clear HSA
  go_upto_region 2 with fail
  obtain ⟨n0, n1, n2, n3⟩ := H0.out
  have c0 := (HH.out.nw n0).cs.c0
  have CK := tHid (keys_call (some mb) wc)
  have CS : Hid (Calls Tryz.prog 38 #[.func (.func 66) #[] #[.pointer (some ⟨wc.heap.size, 0, none⟩)]] (wc.alloc (.cells #[.map (some mb)] 80)) fun e w' => ∃ g c, e = .returned (.slice (some ⟨g, 0, none⟩) cnt c) ∧ cnt ≤ c ∧ c < 9223372036854775808 ∧ Hid (∃ cur, w.heap.size + 2 ≤ g ∧ ImL w h g cur [] none 0 0 w' ∧ ∀ i (hi : i < (es.map Prod.fst).length), cur[i]? = some (.int .i64 (es.map Prod.fst)[i]))) := by
    have hlen : (es.map Prod.fst).length = cnt := by rw [List.length_map]; exact HEE.out.len
    refine Calls.mono (sorted_call (HH.out.nw n0).mp HEE.out HSS.out hcnt) ?_
    rintro e w' ⟨a, c, rfl, z1, z2, z3, z4⟩
    rw [hlen] at z1
    rcases z4 with z4 | ⟨g, cur, rfl, z5, z6, z7⟩
    · exact absurd (List.map_eq_nil_iff.1 z4) HNE.out
    · exact ⟨g, c, by rw [hlen], z1, z2, cur, by omega, ⟨n0.trans z3, z3.heap n1, z3.heap n2, z6, [], ⟨n0.trans z3, ⟨none, ⟨rfl, rfl⟩, fun g hg => by cases hg⟩, fun y hy => by cases hy⟩, rfl, rfl⟩, z7⟩
  clear H0 n0 n1 n2 n3
  go_wp2_with (first
    | (go_at_call 39; with_reducible refine CK.out.mono ?_; rintro e w2 ⟨rfl, rfl⟩)
    | (go_at_call 38; with_reducible refine CS.out.mono ?_; rintro e w3 ⟨g, c, rfl, hc1, hc2, H3⟩))
  obtain ⟨cur, hg2, hL0, hcur⟩ := H3.out
  have HL0 := tHid hL0
  have HCU := tHid hcur
  have HG2 := tHid hg2
  clear CK CS H3 hL0 hcur hg2 c0
  go_loopg [5, 6, 27] cnt (fun kx x5 x6 i wr => ∃ (I : Nat) (a : Option Addr) (cc : Nat), I ≤ cnt ∧ cnt - I ≤ kx ∧ i = .int .i64 I ∧ Hid (ImL w h g cur (((es.map Prod.fst).take I).map (ndq q eL)) a cc I wr))
  case atStart => exact ⟨0, none, 0, by omega, by omega, rfl, HL0.out⟩
  case round =>
    obtain ⟨I, a, cc, hI, hkx, rfl, HI⟩ := hrel
    have hlen : (es.map Prod.fst).length = cnt := by rw [List.length_map]; exact HEE.out.len
    obtain ⟨j1, j2, j3, j4, j5⟩ := id HI.out
    by_cases hlt : I < cnt
    · have hIl : I < (es.map Prod.fst).length := by rw [hlen]; exact hlt
      have hIe : I < es.length := by rw [List.length_map] at hIl; exact hIl
      obtain ⟨k, hk⟩ : ∃ k, k = (es.map Prod.fst)[I]'hIl := ⟨_, rfl⟩
      have kin : wr.cell? ⟨g, I, none⟩ = some (.int .i64 k) := by rw [hk]; exact (rc j4 I _ (HCU.out I hIl)).1
      have hek : (es[I]'hIe).1 = k := by rw [hk]; simp
      obtain ⟨h64, hqm⟩ := HEE.out.ent (es[I]'hIe) (List.getElem_mem hIe)
      rw [hek] at h64 hqm
      have hq : ∃ p, q k = some p := by
        cases hq : q k with
        | none => rw [hq] at hqm; cases hqm
        | some p => exact ⟨p, rfl⟩
      obtain ⟨p, hq⟩ := hq
      have HR := HH.out.nw j1
      have c0 := HR.cs.c0
      have hl := HR.look_some h64 hq
      obtain ⟨dv, ev, k1, k2, k3, k4⟩ := (HR.nd k p hq).blk
      obtain ⟨da, dc, rfl, _, _⟩ := k2.form
      have HSB : Hid (∀ U, Nw wr U → U.cell? ⟨(L k).ib, 0, none⟩ = some (.int .i64 p.kind) ∧ U.cell? ⟨(L k).ib, 1, none⟩ = some (.int .u32 p.mt.mode) ∧ U.cell? ⟨(L k).ib, 2, none⟩ = some (.int .u32 p.mt.uid) ∧ U.cell? ⟨(L k).ib, 3, none⟩ = some (.int .u32 p.mt.gid) ∧ U.cell? ⟨(L k).ib, 4, none⟩ = some (.int .i64 p.mt.time) ∧ U.cell? ⟨(L k).ib, 5, none⟩ = some (.int .i32 p.mt.nano) ∧ U.cell? ⟨(L k).ib, 6, none⟩ = some (.slice da p.data.length dc) ∧ U.cell? ⟨(L k).ib, 7, none⟩ = some (.string (mk p.tgt))) := fun U hU =>
        ⟨hU.cell (rc k1 0 _ rfl).1, hU.cell (rc k1 1 _ rfl).1, hU.cell (rc k1 2 _ rfl).1, hU.cell (rc k1 3 _ rfl).1, hU.cell (rc k1 4 _ rfl).1, hU.cell (rc k1 5 _ rfl).1, hU.cell (rc k1 6 _ rfl).1, hU.cell (rc k1 7 _ rfl).1⟩
      have HSX : Hid (∀ U, Nw wr U → U.cell? ⟨w.heap.size + 1, 3, none⟩ = some (.slice a I cc)) := fun U hU => hU.cell (rc j3 3 _ rfl).1
      have hibl : (L k).ib < w.heap.size := HH.out.lt _ (.inr (.inr (.inr ⟨k, p, hq, .inl rfl⟩)))
      have HC : Hid (∀ U, Nw wr U → Calls Tryz.prog 40 #[.slice da p.data.length dc] U fun e w5 => ∃ a5 c5, e = .returned (.slice a5 p.data.length c5) ∧ Hid (Nw wr w5 ∧ ∃ od, OgB od (.slice a5 p.data.length c5) p.data w5 ∧ ∀ g, od = some g → w.heap.size ≤ g)) := fun U hU => by
        refine Calls.mono (bcl_any U da p.data.length dc p.data rfl ((k2.nw hU).sl.mono (fun _ h => h.elim)) (by have := (HII.out k p hq).2.2.2; omega)) ?_
        rintro e w5 ⟨a5, c5, od, rfl, o1, o2, o3⟩
        have hsz := (j1.trans hU).size
        exact ⟨a5, c5, rfl, hU.trans o2, od, o1, fun g hg => by have := o3 g hg; omega⟩
      have HLs : Hid (∀ a5 c5 U, Hid (Nw wr U ∧ ∃ od, OgB od (.slice a5 p.data.length c5) p.data U ∧ ∀ g, od = some g → w.heap.size ≤ g) → Calls Tryz.prog 41 #[.pointer (some ⟨(L k).ib, 0, none⟩)] U fun e w6 => ∃ a6 c6, e = .returned (.slice a6 (eL k).length c6) ∧ Hid (Nw wr w6 ∧ NqI w ⟨⟨k, p.kind, p.mt, p.data, p.tgt, eL k⟩, ⟨a5, p.data.length, c5⟩, ⟨a6, (eL k).length, c6⟩⟩ w6)) := fun a5 c5 U hU => by
        obtain ⟨u1, od, u2, u3⟩ := hU.out
        refine Calls.mono (list_any sort_any HII.out (HH.out.nw (j1.trans u1)) hq) ?_
        rintro e w6 ⟨og, a6, c6, rfl, o1, o2, o3⟩
        have hsz := (j1.trans u1).size
        exact ⟨a6, c6, rfl, u1.trans o2, ⟨od, u2.nw o2, u3⟩, og, o1, fun g hg => by have := o3 g hg; omega⟩
      have HPu : Hid (∀ a5 c5 a6 c6 w6, Hid (Nw wr w6 ∧ NqI w ⟨⟨k, p.kind, p.mt, p.data, p.tgt, eL k⟩, ⟨a5, p.data.length, c5⟩, ⟨a6, (eL k).length, c6⟩⟩ w6) → ∃ a7 c7 W, (∀ ty, (appV #[22, 22] ty #[.slice a I cc, .slice (some ⟨w6.heap.size, 0, none⟩) 1 1]).run Tryz.prog (w6.alloc (.cells #[.int .i64 k, .int .i64 p.kind, .int .u32 p.mt.mode, .int .u32 p.mt.uid, .int .u32 p.mt.gid, .int .i64 p.mt.time, .int .i32 p.mt.nano, .slice a5 p.data.length c5, .string (mk p.tgt), .slice a6 (eL k).length c6] 44)) = .ok (.slice a7 (I + 1) c7) W) ∧ W.cell? ⟨w.heap.size + 1, 3, none⟩ = some (.slice a I cc) ∧ W.frozen? ⟨w.heap.size + 1, 3, none⟩ = false ∧ Hid (W.cell? ⟨(L k).ib, 0, none⟩ = some (.int .i64 p.kind) ∧ W.cell? ⟨(L k).ib, 1, none⟩ = some (.int .u32 p.mt.mode) ∧ W.cell? ⟨(L k).ib, 2, none⟩ = some (.int .u32 p.mt.uid) ∧ W.cell? ⟨(L k).ib, 3, none⟩ = some (.int .u32 p.mt.gid) ∧ W.cell? ⟨(L k).ib, 4, none⟩ = some (.int .i64 p.mt.time) ∧ W.cell? ⟨(L k).ib, 5, none⟩ = some (.int .i32 p.mt.nano) ∧ W.cell? ⟨(L k).ib, 6, none⟩ = some (.slice da p.data.length dc) ∧ W.cell? ⟨(L k).ib, 7, none⟩ = some (.string (mk p.tgt))) ∧ Hid ((W.setCell ⟨w.heap.size + 1, 3, none⟩ (.slice a7 (I + 1) c7)).cell? ⟨(L k).ib, 0, none⟩ = some (.int .i64 p.kind) ∧ (W.setCell ⟨w.heap.size + 1, 3, none⟩ (.slice a7 (I + 1) c7)).cell? ⟨(L k).ib, 1, none⟩ = some (.int .u32 p.mt.mode) ∧ (W.setCell ⟨w.heap.size + 1, 3, none⟩ (.slice a7 (I + 1) c7)).cell? ⟨(L k).ib, 2, none⟩ = some (.int .u32 p.mt.uid) ∧ (W.setCell ⟨w.heap.size + 1, 3, none⟩ (.slice a7 (I + 1) c7)).cell? ⟨(L k).ib, 3, none⟩ = some (.int .u32 p.mt.gid) ∧ (W.setCell ⟨w.heap.size + 1, 3, none⟩ (.slice a7 (I + 1) c7)).cell? ⟨(L k).ib, 4, none⟩ = some (.int .i64 p.mt.time) ∧ (W.setCell ⟨w.heap.size + 1, 3, none⟩ (.slice a7 (I + 1) c7)).cell? ⟨(L k).ib, 5, none⟩ = some (.int .i32 p.mt.nano) ∧ (W.setCell ⟨w.heap.size + 1, 3, none⟩ (.slice a7 (I + 1) c7)).cell? ⟨(L k).ib, 6, none⟩ = some (.slice da p.data.length dc) ∧ (W.setCell ⟨w.heap.size + 1, 3, none⟩ (.slice a7 (I + 1) c7)).cell? ⟨(L k).ib, 7, none⟩ = some (.string (mk p.tgt))) ∧ Hid (ImL w h g cur (((es.map Prod.fst).take (I + 1)).map (ndq q eL)) a7 c7 (I + 1) (W.setCell ⟨w.heap.size + 1, 3, none⟩ (.slice a7 (I + 1) c7)))) := fun a5 c5 a6 c6 w6 h6 => by
        obtain ⟨a7, c7, W, r1, r2, r3, r4, r5⟩ := iml_push HI.out (by omega) h6.out.1 _ h6.out.2 HG2.out
        obtain ⟨v1, v2, v3, v4, v5, v6, v7, v8⟩ := HSB.out w6 h6.out.1
        have hnx : ¬ (w.heap.size ≤ (L k).ib ∧ tg w6 (L k).ib = some 44) := fun e => by omega
        have fs : Fr (fun k => k = w.heap.size + 1) W (W.setCell ⟨w.heap.size + 1, 3, none⟩ (.slice a7 (I + 1) c7)) := (Fr.refl (fun k => k = w.heap.size + 1) W).setCell ⟨w.heap.size + 1, 3, none⟩ _ (.inl rfl)
        have hny : ¬ (L k).ib = w.heap.size + 1 := by omega
        refine ⟨a7, c7, W, r1, r2, r3, ⟨r5.cellv v1 hnx, r5.cellv v2 hnx, r5.cellv v3 hnx, r5.cellv v4 hnx, r5.cellv v5 hnx, r5.cellv v6 hnx, r5.cellv v7 hnx, r5.cellv v8 hnx⟩, ⟨fs.cellv (r5.cellv v1 hnx) hny, fs.cellv (r5.cellv v2 hnx) hny, fs.cellv (r5.cellv v3 hnx) hny, fs.cellv (r5.cellv v4 hnx) hny, fs.cellv (r5.cellv v5 hnx) hny, fs.cellv (r5.cellv v6 hnx) hny, fs.cellv (r5.cellv v7 hnx) hny, fs.cellv (r5.cellv v8 hnx) hny⟩, ?_⟩
        · have e1 : ((es.map Prod.fst).take (I + 1)).map (ndq q eL) = ((es.map Prod.fst).take I).map (ndq q eL) ++ [⟨k, p.kind, p.mt, p.data, p.tgt, eL k⟩] := by
            rw [List.take_add_one, List.getElem?_eq_getElem hIl, ← hk, List.map_append]
            simp [ndq, hq]
          rw [e1]
          exact r4
      have hlt2 : (I : Int) < (cnt : Int) := by omega
      have hltd := decide_eq_true hlt2
      have hltn := decide_eq_true hlt
      have hIc : I < c := by omega
      have zwj : IntKind.i64.wrap ((I : Int) + 1) = (I : Int) + 1 := by rw [IntKind.wrap_i64]; omega
      clear HI HH HEE HSS HII HNE HL0 HCU HG2 j1 j2 j3 j4 j5 HPE hlen hIl hIe hk hek h64 hqm hq HR k1 k2 k3 k4 hibl st1 st2
      generalize (L k).ib = ib at *
      generalize p.data.length = dl at *
      generalize (eL k).length = el at *
      generalize mk p.tgt = tt at *
      go_upto_region 6 with fail
      -- REGION 6
      refine wpAny_exact (N := 26) (n := 27) (o := im6o) (ops' := im6) (S := fun U => U.cell? ⟨w.heap.size + 1, 3, none⟩ = some (.slice a I cc) ∧ U.cell? ⟨ib, 0, none⟩ = some (.int .i64 p.kind) ∧ U.cell? ⟨ib, 1, none⟩ = some (.int .u32 p.mt.mode) ∧ U.cell? ⟨ib, 2, none⟩ = some (.int .u32 p.mt.uid) ∧ U.cell? ⟨ib, 3, none⟩ = some (.int .u32 p.mt.gid) ∧ U.cell? ⟨ib, 4, none⟩ = some (.int .i64 p.mt.time) ∧ U.cell? ⟨ib, 5, none⟩ = some (.int .i32 p.mt.nano) ∧ U.cell? ⟨ib, 6, none⟩ = some (.slice da dl dc) ∧ U.cell? ⟨ib, 7, none⟩ = some (.string tt)) (by kernel_rfl) rfl rfl rfl (by kernel_rfl) rfl rfl ?_ (fun hHeld => ?_)
      · exact ⟨HSX.out _ (Fr.refl _ _).drew, HSB.out _ (Fr.refl _ _).drew⟩
      refine wpAnyH_take (i := 0) (oi := { dst := some 37, op := Op.fieldAddr 24 (Operand.tmp 3) 3, type := 0, pos := "image.go:45", after := #[], guard := none }) (v := ?_) rfl (by kernel_rfl) (by kernel_rfl) (by kernel_rfl) (fun _ _ _ h => h) (Or.inl ⟨by rfl, ?_⟩) (by assumption) ?_
      rotate_left
      · intro U hSw; (try dsimp only at hSw); (go_simp <;> with_reducible rfl)
      try simp only [Act.put, List.setIfInBounds_toArray, List.set_cons_zero, List.set_cons_succ]
      refine wpAnyH_take (i := 1) (oi := { dst := some 38, op := Op.load 22 (Operand.tmp 37), type := 22, pos := "image.go:45", after := #[{ on := 0, ground := Ground.data }], guard := none }) (v := ?_) rfl (by kernel_rfl) (by kernel_rfl) (by kernel_rfl) (fun _ _ _ h => h) (Or.inl ⟨by rfl, ?_⟩) (by assumption) ?_
      rotate_left
      · intro U hSw; (try dsimp only at hSw); (go_simp <;> with_reducible rfl)
      try simp only [Act.put, List.setIfInBounds_toArray, List.set_cons_zero, List.set_cons_succ]
      refine wpAnyH_take (i := 2) (oi := { dst := some 39, op := Op.move (Operand.tmp 5), type := 3, pos := "image.go:45", after := #[], guard := none }) (v := ?_) rfl (by kernel_rfl) (by kernel_rfl) (by kernel_rfl) (fun _ _ _ h => h) (Or.inl ⟨by rfl, ?_⟩) (by assumption) ?_
      rotate_left
      · intro U hSw; (try dsimp only at hSw); (go_simp <;> with_reducible rfl)
      try simp only [Act.put, List.setIfInBounds_toArray, List.set_cons_zero, List.set_cons_succ]
      refine wpAnyH_take (i := 3) (oi := { dst := some 40, op := Op.move (Operand.tmp 6), type := 88, pos := "image.go:45", after := #[], guard := none }) (v := ?_) rfl (by kernel_rfl) (by kernel_rfl) (by kernel_rfl) (fun _ _ _ h => h) (Or.inl ⟨by rfl, ?_⟩) (by assumption) ?_
      rotate_left
      · intro U hSw; (try dsimp only at hSw); (go_simp <;> with_reducible rfl)
      try simp only [Act.put, List.setIfInBounds_toArray, List.set_cons_zero, List.set_cons_succ]
      refine wpAnyH_take (i := 4) (oi := { dst := some 41, op := Op.nilCheck (Operand.tmp 40), type := 0, pos := "image.go:45", after := #[{ on := 3, ground := Ground.data }], guard := none }) (v := ?_) rfl (by kernel_rfl) (by kernel_rfl) (by kernel_rfl) (fun _ _ _ h => h) (Or.inl ⟨by rfl, ?_⟩) (by assumption) ?_
      rotate_left
      · intro U hSw; (try dsimp only at hSw); (go_simp <;> with_reducible rfl)
      try simp only [Act.put, List.setIfInBounds_toArray, List.set_cons_zero, List.set_cons_succ]
      refine wpAnyH_take (i := 5) (oi := { dst := some 42, op := Op.fieldAddr 91 (Operand.tmp 41) 0, type := 0, pos := "image.go:45", after := #[{ on := 4, ground := Ground.data }], guard := none }) (v := ?_) rfl (by kernel_rfl) (by kernel_rfl) (by kernel_rfl) (fun _ _ _ h => h) (Or.inl ⟨by rfl, ?_⟩) (by assumption) ?_
      rotate_left
      · intro U hSw; (try dsimp only at hSw); (go_simp <;> with_reducible rfl)
      try simp only [Act.put, List.setIfInBounds_toArray, List.set_cons_zero, List.set_cons_succ]
      refine wpAnyH_take (i := 6) (oi := { dst := some 43, op := Op.load 3 (Operand.tmp 42), type := 3, pos := "image.go:45", after := #[{ on := 5, ground := Ground.data }], guard := none }) (v := ?_) rfl (by kernel_rfl) (by kernel_rfl) (by kernel_rfl) (fun _ _ _ h => h) (Or.inl ⟨by rfl, ?_⟩) (by assumption) ?_
      rotate_left
      · intro U hSw; (try dsimp only at hSw); (go_simp <;> with_reducible rfl)
      try simp only [Act.put, List.setIfInBounds_toArray, List.set_cons_zero, List.set_cons_succ]
      refine wpAnyH_take (i := 7) (oi := { dst := some 44, op := Op.move (Operand.tmp 6), type := 88, pos := "image.go:45", after := #[], guard := none }) (v := ?_) rfl (by kernel_rfl) (by kernel_rfl) (by kernel_rfl) (fun _ _ _ h => h) (Or.inl ⟨by rfl, ?_⟩) (by assumption) ?_
      rotate_left
      · intro U hSw; (try dsimp only at hSw); (go_simp <;> with_reducible rfl)
      try simp only [Act.put, List.setIfInBounds_toArray, List.set_cons_zero, List.set_cons_succ]
      refine wpAnyH_take (i := 8) (oi := { dst := some 45, op := Op.nilCheck (Operand.tmp 44), type := 0, pos := "image.go:45", after := #[{ on := 7, ground := Ground.data }], guard := none }) (v := ?_) rfl (by kernel_rfl) (by kernel_rfl) (by kernel_rfl) (fun _ _ _ h => h) (Or.inl ⟨by rfl, ?_⟩) (by assumption) ?_
      rotate_left
      · intro U hSw; (try dsimp only at hSw); (go_simp <;> with_reducible rfl)
      try simp only [Act.put, List.setIfInBounds_toArray, List.set_cons_zero, List.set_cons_succ]
      refine wpAnyH_take (i := 9) (oi := { dst := some 46, op := Op.fieldAddr 91 (Operand.tmp 45) 1, type := 0, pos := "image.go:45", after := #[{ on := 8, ground := Ground.data }], guard := none }) (v := ?_) rfl (by kernel_rfl) (by kernel_rfl) (by kernel_rfl) (fun _ _ _ h => h) (Or.inl ⟨by rfl, ?_⟩) (by assumption) ?_
      rotate_left
      · intro U hSw; (try dsimp only at hSw); (go_simp <;> with_reducible rfl)
      try simp only [Act.put, List.setIfInBounds_toArray, List.set_cons_zero, List.set_cons_succ]
      refine wpAnyH_take (i := 10) (oi := { dst := some 47, op := Op.load 37 (Operand.tmp 46), type := 37, pos := "image.go:45", after := #[{ on := 9, ground := Ground.data }], guard := none }) (v := ?_) rfl (by kernel_rfl) (by kernel_rfl) (by kernel_rfl) (fun _ _ _ h => h) (Or.inl ⟨by rfl, ?_⟩) (by assumption) ?_
      rotate_left
      · intro U hSw; (try dsimp only at hSw); (go_simp <;> with_reducible rfl)
      try simp only [Act.put, List.setIfInBounds_toArray, List.set_cons_zero, List.set_cons_succ]
      refine wpAnyH_take (i := 11) (oi := { dst := some 48, op := Op.move (Operand.tmp 6), type := 88, pos := "image.go:45", after := #[], guard := none }) (v := ?_) rfl (by kernel_rfl) (by kernel_rfl) (by kernel_rfl) (fun _ _ _ h => h) (Or.inl ⟨by rfl, ?_⟩) (by assumption) ?_
      rotate_left
      · intro U hSw; (try dsimp only at hSw); (go_simp <;> with_reducible rfl)
      try simp only [Act.put, List.setIfInBounds_toArray, List.set_cons_zero, List.set_cons_succ]
      refine wpAnyH_take (i := 12) (oi := { dst := some 49, op := Op.nilCheck (Operand.tmp 48), type := 0, pos := "image.go:45", after := #[{ on := 11, ground := Ground.data }], guard := none }) (v := ?_) rfl (by kernel_rfl) (by kernel_rfl) (by kernel_rfl) (fun _ _ _ h => h) (Or.inl ⟨by rfl, ?_⟩) (by assumption) ?_
      rotate_left
      · intro U hSw; (try dsimp only at hSw); (go_simp <;> with_reducible rfl)
      try simp only [Act.put, List.setIfInBounds_toArray, List.set_cons_zero, List.set_cons_succ]
      refine wpAnyH_take (i := 13) (oi := { dst := some 50, op := Op.fieldAddr 91 (Operand.tmp 49) 2, type := 0, pos := "image.go:45", after := #[{ on := 12, ground := Ground.data }], guard := none }) (v := ?_) rfl (by kernel_rfl) (by kernel_rfl) (by kernel_rfl) (fun _ _ _ h => h) (Or.inl ⟨by rfl, ?_⟩) (by assumption) ?_
      rotate_left
      · intro U hSw; (try dsimp only at hSw); (go_simp <;> with_reducible rfl)
      try simp only [Act.put, List.setIfInBounds_toArray, List.set_cons_zero, List.set_cons_succ]
      refine wpAnyH_take (i := 14) (oi := { dst := some 51, op := Op.load 38 (Operand.tmp 50), type := 38, pos := "image.go:45", after := #[{ on := 13, ground := Ground.data }], guard := none }) (v := ?_) rfl (by kernel_rfl) (by kernel_rfl) (by kernel_rfl) (fun _ _ _ h => h) (Or.inl ⟨by rfl, ?_⟩) (by assumption) ?_
      rotate_left
      · intro U hSw; (try dsimp only at hSw); (go_simp <;> with_reducible rfl)
      try simp only [Act.put, List.setIfInBounds_toArray, List.set_cons_zero, List.set_cons_succ]
      refine wpAnyH_take (i := 16) (oi := { dst := some 53, op := Op.move (Operand.tmp 6), type := 88, pos := "image.go:45", after := #[], guard := none }) (v := ?_) rfl (by kernel_rfl) (by kernel_rfl) (by kernel_rfl) (fun _ _ _ h => h) (Or.inl ⟨by rfl, ?_⟩) (by assumption) ?_
      rotate_left
      · intro U hSw; (try dsimp only at hSw); (go_simp <;> with_reducible rfl)
      try simp only [Act.put, List.setIfInBounds_toArray, List.set_cons_zero, List.set_cons_succ]
      refine wpAnyH_take (i := 17) (oi := { dst := some 54, op := Op.nilCheck (Operand.tmp 53), type := 0, pos := "image.go:45", after := #[{ on := 16, ground := Ground.data }], guard := none }) (v := ?_) rfl (by kernel_rfl) (by kernel_rfl) (by kernel_rfl) (fun _ _ _ h => h) (Or.inl ⟨by rfl, ?_⟩) (by assumption) ?_
      rotate_left
      · intro U hSw; (try dsimp only at hSw); (go_simp <;> with_reducible rfl)
      try simp only [Act.put, List.setIfInBounds_toArray, List.set_cons_zero, List.set_cons_succ]
      refine wpAnyH_take (i := 18) (oi := { dst := some 55, op := Op.fieldAddr 91 (Operand.tmp 54) 3, type := 0, pos := "image.go:45", after := #[{ on := 17, ground := Ground.data }], guard := none }) (v := ?_) rfl (by kernel_rfl) (by kernel_rfl) (by kernel_rfl) (fun _ _ _ h => h) (Or.inl ⟨by rfl, ?_⟩) (by assumption) ?_
      rotate_left
      · intro U hSw; (try dsimp only at hSw); (go_simp <;> with_reducible rfl)
      try simp only [Act.put, List.setIfInBounds_toArray, List.set_cons_zero, List.set_cons_succ]
      refine wpAnyH_take (i := 19) (oi := { dst := some 56, op := Op.load 9 (Operand.tmp 55), type := 9, pos := "image.go:45", after := #[{ on := 18, ground := Ground.data }], guard := none }) (v := ?_) rfl (by kernel_rfl) (by kernel_rfl) (by kernel_rfl) (fun _ _ _ h => h) (Or.inl ⟨by rfl, ?_⟩) (by assumption) ?_
      rotate_left
      · intro U hSw; (try dsimp only at hSw); (go_simp <;> with_reducible rfl)
      try simp only [Act.put, List.setIfInBounds_toArray, List.set_cons_zero, List.set_cons_succ]
      refine wpAnyH_take (i := 20) (oi := { dst := some 57, op := Op.move (Operand.tmp 6), type := 88, pos := "image.go:45", after := #[], guard := none }) (v := ?_) rfl (by kernel_rfl) (by kernel_rfl) (by kernel_rfl) (fun _ _ _ h => h) (Or.inl ⟨by rfl, ?_⟩) (by assumption) ?_
      rotate_left
      · intro U hSw; (try dsimp only at hSw); (go_simp <;> with_reducible rfl)
      try simp only [Act.put, List.setIfInBounds_toArray, List.set_cons_zero, List.set_cons_succ]
      refine wpAnyH_ready (rs := [15]) (by kernel_rfl) (by simp) ?_
      refine AllReadyH.cons (o := { dst := some 52, op := Op.call { callee := Callee.value (Operand.func 40), args := #[Operand.tmp 51], argTypes := #[38] }, type := 38, pos := "image.go:47", after := #[{ on := 14, ground := Ground.data }], guard := none }) rfl (fun K hK => ?_) AllReadyH.nil
      go_simp
      go_at_call 40; refine (HC.out _ (by first | exact Fr.refl _ _ | exact (Fr.refl _ _).drew)).mono ?_; rintro e w5 ⟨a5, c5, rfl, H5⟩
      (try go_wp2_with fail)
      refine hK.out _ _ ?_ (fun hHeld => ?_)
      · exact ⟨HSX.out _ H5.out.1, HSB.out _ H5.out.1⟩
      clear hK K
      try simp only [Act.put, List.setIfInBounds_toArray, List.set_cons_zero, List.set_cons_succ]
      refine wpAnyH_ready (rs := [21]) (by kernel_rfl) (by simp) ?_
      refine AllReadyH.cons (o := { dst := some 58, op := Op.call { callee := Callee.value (Operand.func 41), args := #[Operand.tmp 57], argTypes := #[88] }, type := 42, pos := "image.go:47", after := #[{ on := 20, ground := Ground.data }, { on := 15, ground := Ground.chain }], guard := none }) rfl (fun K hK => ?_) AllReadyH.nil
      go_simp
      go_at_call 41; refine (HLs.out a5 c5 _ H5).mono ?_; rintro e w6 ⟨a6, c6, rfl, H6⟩
      (try go_wp2_with fail)
      refine hK.out _ _ ?_ (fun hHeld => ?_)
      · exact ⟨HSX.out _ H6.out.1, HSB.out _ H6.out.1⟩
      clear hK K
      try simp only [Act.put, List.setIfInBounds_toArray, List.set_cons_zero, List.set_cons_succ]
      obtain ⟨a7, c7, W7, r7, s7, f7, HS7, HT7, HL7⟩ := HPu.out a5 c5 a6 c6 w6 H6
      have o7 := stoV_slice W7 (w.heap.size + 1) 3 a7 (I + 1) c7 _ s7 f7
      refine wpAnyH_take (i := 22) (oi := { dst := some 59, op := Op.build 44 #[(0, Operand.tmp 39), (1, Operand.tmp 43), (2, Operand.tmp 47), (3, Operand.tmp 52), (4, Operand.tmp 56), (5, Operand.tmp 58)], type := 44, pos := "image.go:45", after := #[{ on := 2, ground := Ground.data }, { on := 6, ground := Ground.data }, { on := 10, ground := Ground.data }, { on := 15, ground := Ground.data }, { on := 19, ground := Ground.data }, { on := 21, ground := Ground.data }], guard := none }) (v := ?_) rfl (by kernel_rfl) (by kernel_rfl) (by kernel_rfl) (fun _ _ _ h => h) (Or.inl ⟨by rfl, ?_⟩) (by assumption) ?_
      rotate_left
      · intro U hSw; (try dsimp only at hSw); (go_simp <;> with_reducible rfl)
      try simp only [Act.put, List.setIfInBounds_toArray, List.set_cons_zero, List.set_cons_succ]
      refine wpAnyH_ready (rs := [23]) (by kernel_rfl) (by simp) ?_
      refine AllReadyH.cons (o := { dst := some 60, op := Op.buildSlice 22 1 #[(0, Operand.tmp 59)], type := 22, pos := "image.go:45", after := #[{ on := 22, ground := Ground.data }], guard := none }) rfl (fun K hK => ?_) AllReadyH.nil
      go_simp
      refine hK.out _ _ ?_ (fun hHeld => ?_)
      · exact ⟨HSX.out _ (H6.out.1.alloc _), HSB.out _ (H6.out.1.alloc _)⟩
      clear hK K
      try simp only [Act.put, List.setIfInBounds_toArray, List.set_cons_zero, List.set_cons_succ]
      refine wpAnyH_ready (rs := [24]) (by kernel_rfl) (by simp) ?_
      refine AllReadyH.cons (o := { dst := some 61, op := Op.call { callee := Callee.builtin Builtin.append, args := #[Operand.tmp 38, Operand.tmp 60], argTypes := #[22, 22] }, type := 22, pos := "image.go:45", after := #[{ on := 1, ground := Ground.data }, { on := 23, ground := Ground.data }, { on := 21, ground := Ground.chain }], guard := none }) rfl (fun K hK => ?_) AllReadyH.nil
      go_simp
      refine hK.out _ _ ?_ (fun hHeld => ?_)
      · exact ⟨s7, HS7.out⟩
      clear hK K
      try simp only [Act.put, List.setIfInBounds_toArray, List.set_cons_zero, List.set_cons_succ]
      refine wpAnyH_take (i := 25) (oi := { dst := some 62, op := Op.fieldAddr 24 (Operand.tmp 3) 3, type := 0, pos := "image.go:45", after := #[{ on := 0, ground := Ground.phase }, { on := 1, ground := Ground.phase }, { on := 2, ground := Ground.phase }, { on := 3, ground := Ground.phase }, { on := 4, ground := Ground.phase }, { on := 5, ground := Ground.phase }, { on := 6, ground := Ground.phase }, { on := 7, ground := Ground.phase }, { on := 8, ground := Ground.phase }, { on := 9, ground := Ground.phase }, { on := 10, ground := Ground.phase }, { on := 11, ground := Ground.phase }, { on := 12, ground := Ground.phase }, { on := 13, ground := Ground.phase }, { on := 14, ground := Ground.phase }, { on := 15, ground := Ground.phase }, { on := 16, ground := Ground.phase }, { on := 17, ground := Ground.phase }, { on := 18, ground := Ground.phase }, { on := 19, ground := Ground.phase }, { on := 20, ground := Ground.phase }, { on := 21, ground := Ground.phase }, { on := 22, ground := Ground.phase }, { on := 23, ground := Ground.phase }, { on := 24, ground := Ground.phase }], guard := none }) (v := ?_) rfl (by kernel_rfl) (by kernel_rfl) (by kernel_rfl) (fun _ _ _ h => h) (Or.inl ⟨by rfl, ?_⟩) (by assumption) ?_
      rotate_left
      · intro U hSw; (try dsimp only at hSw); (go_simp <;> with_reducible rfl)
      try simp only [Act.put, List.setIfInBounds_toArray, List.set_cons_zero, List.set_cons_succ]
      refine wpAnyH_take (i := 26) (oi := { dst := none, op := Op.move (Operand.const (.bool true)), type := 0, pos := "image.go:45", after := #[{ on := 25, ground := Ground.data }, { on := 24, ground := Ground.data }, { on := 24, ground := Ground.chain }, { on := 0, ground := Ground.phase }, { on := 1, ground := Ground.phase }, { on := 2, ground := Ground.phase }, { on := 3, ground := Ground.phase }, { on := 4, ground := Ground.phase }, { on := 5, ground := Ground.phase }, { on := 6, ground := Ground.phase }, { on := 7, ground := Ground.phase }, { on := 8, ground := Ground.phase }, { on := 9, ground := Ground.phase }, { on := 10, ground := Ground.phase }, { on := 11, ground := Ground.phase }, { on := 12, ground := Ground.phase }, { on := 13, ground := Ground.phase }, { on := 14, ground := Ground.phase }, { on := 15, ground := Ground.phase }, { on := 16, ground := Ground.phase }, { on := 17, ground := Ground.phase }, { on := 18, ground := Ground.phase }, { on := 19, ground := Ground.phase }, { on := 20, ground := Ground.phase }, { on := 21, ground := Ground.phase }, { on := 22, ground := Ground.phase }, { on := 23, ground := Ground.phase }, { on := 24, ground := Ground.phase }], guard := none }) (v := ?_) rfl (by kernel_rfl) (by kernel_rfl) (by kernel_rfl) (fun _ _ _ h => h) (Or.inl ⟨by rfl, ?_⟩) (by assumption) ?_
      rotate_left
      · intro U hSw; (try dsimp only at hSw); (go_simp <;> with_reducible rfl)
      try simp only [Act.put, List.setIfInBounds_toArray, List.set_cons_zero, List.set_cons_succ]
      refine wpAnyH_done (by kernel_rfl) ?_ _
      show Oper.wp Tryz.prog _ _ _ _ _
      unfold im6o
      go_simp
      -- REGION 6 END
      all_goals go_wp2_with fail
      all_goals (
        go_roundg (cnt - (I + 1))
        case measure => omega
        case rel => exact ⟨I + 1, a7, c7, by omega, by omega, by first | rfl | (congr 1), HL7⟩)
    · have hIe : I = cnt := by omega
      have hlt2 : ¬ (I : Int) < (cnt : Int) := by omega
      have hltd := decide_eq_false hlt2
      have hltn := decide_eq_false hlt
      have hst := stoV_row wr w.heap.size 24 24 imZ (imC h (.slice a I cc)) j2 (by kernel_rfl) rfl (by simp [Value.oneCell'])
      have y0 := (rc j3 0 _ rfl).1
      have y1 := (rc j3 1 _ rfl).1
      have y2 := (rc j3 2 _ rfl).1
      have y3 := (rc j3 3 _ rfl).1
      have HROW := tHid (setRow_heap wr w.heap.size imZ (imC h (.slice a I cc)) 24 _ j2)
      have HF : Hid (P (.returned (.agg (imC h (.slice a I cc)))) (wr.setRow w.heap.size (imC h (.slice a I cc)))) := by
        show P _ _
        rw [HPE.out]
        obtain ⟨l, u1, u2, u3⟩ := j5
        have fs : Fr (fun k => k = w.heap.size) wr (wr.setRow w.heap.size (imC h (.slice a I cc))) := (Fr.refl (fun k => k = w.heap.size) wr).setRow _ _ (.inl rfl)
        have tW := tg_cells j2
        refine ⟨a, I, cc, l, rfl, ?_, by rw [u2, hIe, ← hlen, List.take_length], u3⟩
        obtain ⟨q1, ⟨og, q2, q3⟩, q4⟩ := u1
        refine ⟨q1.then fs (fun i hi => .inr (by omega)), ⟨og, q2.kept fs (fun g' hg' e => ?_), q3⟩, fun z hz => ?_⟩
        · have := ogr_tg q2 g' hg'
          rw [e, tW] at this; exact absurd this (by decide)
        · obtain ⟨⟨od, z1, z2⟩, oe, z3, z4⟩ := q4 z hz
          refine ⟨⟨od, z1.kept fs (fun g' hg' e => ?_), z2⟩, oe, z3.kept fs (fun g' hg' e => ?_), z4⟩
          · rw [hg'] at z1
            have := z1.tg
            rw [e, tW] at this; exact absurd this (by decide)
          · have := ogr_tg z3 g' hg'
            rw [e, tW] at this; exact absurd this (by decide)
      clear HI HH HEE HSS HII HNE HL0 HCU HG2 j1 j2 j3 j4 j5 HPE hlen hIe
      go_wp2_with fail
      exact iret w.heap.size (by first | rfl | simp [Act.put]) HROW.out rfl rfl HF.out
end
end Go.Proofs.YtcogkhcfpgelhabGreat

namespace Go.Proofs.YtcogkhcfpgelhabGreat
open Go.RowKit
set_option linter.unusedVariables false
set_option maxRecDepth 100000
variable {w w' W V : World}
/-! ### The document's Copy -/
abbrev ciC (X : Im) (v : Value) : Array Value := #[.int .i64 X.nodes, .int .i64 X.bytes, .int .i64 X.next, v]
/-- How Copy's loop stands. -/
def CpI (w : World) (X : Im) (N : List Nd) (a : Option Addr) (c I : Nat) (wr : World) : Prop := Nw w wr ∧ wr.heap[w.heap.size]? = some (.cells (ciC X (.slice a I c)) 24) ∧ wr.heap[w.heap.size + 1]? = some (.cells imZ 24) ∧ ∃ l, ImI w (.slice a I c) l wr ∧ l.map Nq.x = N ∧ l.length = I
theorem cp_step {X : Im} {N : List Nd} {a : Option Addr} {c I : Nat} {wr : World} (H : CpI w X N a c I wr) (hI : I ≤ 1000000000) (y : Nq) (hy : NqR y wr) (hw : NdW y.x) {V3 : World} (hV3 : wr.alloc (.cells (nqC y) 44) = V3) :
    ∃ da dc A2 A3 ea ec B2 B3 a' c' C2 C3, (∀ ty, (appV #[38, 38] ty #[.slice (some ⟨V3.heap.size, 0, none⟩) 0 0, .slice y.d.a y.d.n y.d.c]).run Tryz.prog (V3.alloc (.cells #[] 5)) = .ok (.slice da y.d.n dc) A2) ∧ A2.setCell ⟨wr.heap.size, 7, none⟩ (.slice da y.d.n dc) = A3 ∧ (∃ u, A2.cell? ⟨wr.heap.size, 7, none⟩ = some u) ∧ A2.frozen? ⟨wr.heap.size, 7, none⟩ = false ∧
      A3.cell? ⟨wr.heap.size, 9, none⟩ = some (.slice y.e.a y.e.n y.e.c) ∧ (A3.alloc (.cells #[] 57)).cell? ⟨wr.heap.size, 9, none⟩ = some (.slice y.e.a y.e.n y.e.c) ∧ (∀ ty, (appV #[42, 42] ty #[.slice (some ⟨A3.heap.size, 0, none⟩) 0 0, .slice y.e.a y.e.n y.e.c]).run Tryz.prog (A3.alloc (.cells #[] 57)) = .ok (.slice ea y.e.n ec) B2) ∧ B2.setCell ⟨wr.heap.size, 9, none⟩ (.slice ea y.e.n ec) = B3 ∧ (∃ u, B2.cell? ⟨wr.heap.size, 9, none⟩ = some u) ∧ B2.frozen? ⟨wr.heap.size, 9, none⟩ = false ∧
      B3.cell? ⟨w.heap.size, 3, none⟩ = some (.slice a I c) ∧ NqC wr.heap.size 0 ⟨y.x, ⟨da, y.d.n, dc⟩, ⟨ea, y.e.n, ec⟩⟩ B3 ∧ (∀ ty, (appV #[22, 22] ty #[.slice a I c, .slice (some ⟨B3.heap.size, 0, none⟩) 1 1]).run Tryz.prog (B3.alloc (.cells (nqC ⟨y.x, ⟨da, y.d.n, dc⟩, ⟨ea, y.e.n, ec⟩⟩) 44)) = .ok (.slice a' (I + 1) c') C2) ∧ C2.cell? ⟨w.heap.size, 3, none⟩ = some (.slice a I c) ∧ C2.frozen? ⟨w.heap.size, 3, none⟩ = false ∧ C2.setCell ⟨w.heap.size, 3, none⟩ (.slice a' (I + 1) c') = C3 ∧ CpI w X (N ++ [y.x]) a' c' (I + 1) C3 := by
  obtain ⟨k1, k2, k3, l, k5, k6, k7⟩ := H
  subst k7
  have hN3 : Nw wr V3 := by rw [← hV3]; exact (Fr.refl _ _).alloc _
  have hs3 : V3.heap.size = wr.heap.size + 1 := by rw [← hV3]; simp
  have hn3 : V3.heap[wr.heap.size]? = some (.cells (nqC y) 44) := by rw [← hV3]; exact nh wr _
  have hszw := k1.size
  have hpb := blt k2
  have hrb := blt k3
  have hdn := hy.dn.1
  have hen := hy.en.1
  -- the bytes
  have hNA : Nw V3 (V3.alloc (.cells #[] 5)) := (Fr.refl _ _).alloc _
  obtain ⟨vd, gd, A2, b1, b2, b3, b4⟩ := app_any (V3.alloc (.cells #[] 5)) V3.heap.size _ [] (Ow.empty V3) (.slice y.d.a y.d.n y.d.c) y.x.data (((hy.nw hN3).nw hNA).1) (by have := hw.dl; simp; omega)
  rw [List.nil_append] at b2
  obtain ⟨dc, ed, _, _⟩ : ∃ dc, vd = .slice (some ⟨gd, 0, none⟩) y.d.n dc ∧ y.d.n ≤ dc ∧ dc < 9223372036854775808 := by
    obtain ⟨xs, e1, e2, e3, e4, e5⟩ := b2
    exact ⟨_, by rw [hdn]; exact e1, by omega, e4⟩
  subst ed
  have fA : Fr (fun k => k = V3.heap.size) V3 A2 := hNA.any.trans b3
  have nA : Nw wr A2 := hN3.then fA (fun i hi => .inr (by omega))
  have mA : A2.heap[wr.heap.size]? = some (.cells (nqC y) 44) := fA.heap hn3 (by omega)
  obtain ⟨A3, hA3⟩ : ∃ A3, A2.setCell ⟨wr.heap.size, 7, none⟩ (.slice (some ⟨gd, 0, none⟩) y.d.n dc) = A3 := ⟨_, rfl⟩
  have fA3 : Fr (fun k => k = wr.heap.size) A2 A3 := by rw [← hA3]; exact (Fr.refl (fun k => k = wr.heap.size) A2).setCell ⟨wr.heap.size, 7, none⟩ _ (.inl rfl)
  have nA3 : Nw wr A3 := nA.then fA3 (fun i hi => .inr (by omega))
  have mA3 : A3.heap[wr.heap.size]? = some (.cells (nqC ⟨y.x, ⟨some ⟨gd, 0, none⟩, y.d.n, dc⟩, y.e⟩) 44) := by rw [← hA3]; exact rset mA 7 _
  have hgd : wr.heap.size < gd := by
    rcases b4 with e | e
    · rw [e]; omega
    · have := hNA.size; omega
  have dA3 : Ow gd (.slice (some ⟨gd, 0, none⟩) y.d.n dc) y.x.data A3 := b2.kept fA3 (by omega)
  -- the entries
  have hNB : Nw A3 (A3.alloc (.cells #[] 57)) := (Fr.refl _ _).alloc _
  obtain ⟨ve, ge, B2, c1, c2, c3, c4⟩ := owR_app rnmOk (A3.alloc (.cells #[] RNm.T)) A3.heap.size _ [] (OwR.empty A3) (.slice y.e.a y.e.n y.e.c) y.x.ents (((hy.nw nA3).nw hNB).2) (by have := hw.el; simp only [RNm, List.length_nil]; omega) (by have := hw.el; simp only [List.length_nil]; omega)
  rw [List.nil_append] at c2
  obtain ⟨ec, ee, _, _⟩ := c2.form
  rw [← hen] at ee
  subst ee
  have sA3 := nA3.size
  have hszA : wr.heap.size < A3.heap.size := blt mA3
  have fB : Fr (fun k => k = A3.heap.size) A3 B2 := hNB.any.trans c3
  have nB : Nw wr B2 := nA3.then fB (fun i hi => .inr (by omega))
  have mB : B2.heap[wr.heap.size]? = some (.cells (nqC ⟨y.x, ⟨some ⟨gd, 0, none⟩, y.d.n, dc⟩, y.e⟩) 44) := fB.heap mA3 (by omega)
  obtain ⟨B3, hB3⟩ : ∃ B3, B2.setCell ⟨wr.heap.size, 9, none⟩ (.slice (some ⟨ge, 0, none⟩) y.e.n ec) = B3 := ⟨_, rfl⟩
  have fB3 : Fr (fun k => k = wr.heap.size) B2 B3 := by rw [← hB3]; exact (Fr.refl (fun k => k = wr.heap.size) B2).setCell ⟨wr.heap.size, 9, none⟩ _ (.inl rfl)
  have nB3 : Nw wr B3 := nB.then fB3 (fun i hi => .inr (by omega))
  have mB3 : B3.heap[wr.heap.size]? = some (.cells (nqC ⟨y.x, ⟨some ⟨gd, 0, none⟩, y.d.n, dc⟩, ⟨some ⟨ge, 0, none⟩, y.e.n, ec⟩⟩) 44) := by rw [← hB3]; exact rset mB 9 _
  have hge : wr.heap.size < ge := by
    rcases c4 with e | e
    · rw [e]; omega
    · have : A3.heap.size ≤ (A3.alloc (.cells #[] RNm.T)).heap.size := by simp
      omega
  have hgdl : gd < A3.heap.size := dA3.lt
  have dB3 : Ow gd (.slice (some ⟨gd, 0, none⟩) y.d.n dc) y.x.data B3 := (dA3.kept fB (by omega)).kept fB3 (by omega)
  have eB3 : OwR RNm ge (.slice (some ⟨ge, 0, none⟩) y.e.n ec) y.x.ents B3 := c2.kept fB3 (by omega)
  -- the list
  have hNq : NqI w ⟨y.x, ⟨some ⟨gd, 0, none⟩, y.d.n, dc⟩, ⟨some ⟨ge, 0, none⟩, y.e.n, ec⟩⟩ B3 := ⟨⟨some gd, dB3, fun g hg => by injection hg with hg; omega⟩, some ge, eB3, fun g hg => by injection hg with hg; omega⟩
  obtain ⟨a', c', C2, r1, r2, r3⟩ := (k5.nw nB3).push hI _ hNq
  have t2 := tg_cells (nB3.heap k2)
  have t3 := tg_cells (nB3.heap k3)
  have m2 := r3.heap (nB3.heap k2) (fun e => by rw [t2] at e; exact absurd e.2 (by decide))
  have m3 := r3.heap (nB3.heap k3) (fun e => by rw [t3] at e; exact absurd e.2 (by decide))
  obtain ⟨C3, hC3⟩ : ∃ C3, C2.setCell ⟨w.heap.size, 3, none⟩ (.slice a' (l.length + 1) c') = C3 := ⟨_, rfl⟩
  have fC : Fr (fun k => k = w.heap.size) C2 C3 := by rw [← hC3]; exact (Fr.refl (fun k => k = w.heap.size) C2).setCell ⟨w.heap.size, 3, none⟩ _ (.inl rfl)
  have hNC : Nw w C2 := (k1.trans nB3).then r3 (fun i hi => .inr hi.1)
  have tC := tg_cells m2
  have n3c : (nqC y)[9]? = some (.slice y.e.a y.e.n y.e.c) := rfl
  refine ⟨some ⟨gd, 0, none⟩, dc, A2, A3, some ⟨ge, 0, none⟩, ec, B2, B3, a', c', C2, C3, b1, hA3, ⟨_, (rc mA 7 _ rfl).1⟩, (rc mA 7 (.slice y.d.a y.d.n y.d.c) rfl).2, (rc mA3 9 _ rfl).1, hNB.cell (rc mA3 9 _ rfl).1, c1, hB3, ⟨_, (rc mB 9 _ rfl).1⟩, (rc mB 9 (.slice y.e.a y.e.n y.e.c) rfl).2, (rc (nB3.heap k2) 3 _ rfl).1, ⟨(rc mB3 0 _ rfl).1, (rc mB3 1 _ rfl).1, (rc mB3 2 _ rfl).1, (rc mB3 3 _ rfl).1, (rc mB3 4 _ rfl).1, (rc mB3 5 _ rfl).1, (rc mB3 6 _ rfl).1, (rc mB3 7 _ rfl).1, (rc mB3 8 _ rfl).1, (rc mB3 9 _ rfl).1⟩, r1, (rc m2 3 _ rfl).1, (rc m2 3 (.slice a l.length c) rfl).2, hC3, hNC.then fC (fun i hi => .inr (by omega)), ?_, fC.heap m3 (by omega), l ++ [⟨y.x, ⟨some ⟨gd, 0, none⟩, y.d.n, dc⟩, ⟨some ⟨ge, 0, none⟩, y.e.n, ec⟩⟩], ?_, by rw [List.map_append, k6]; rfl, by simp⟩
  · rw [← hC3]; exact rset m2 3 _
  · obtain ⟨q1, ⟨og, q2, q3⟩, q4⟩ := r2
    refine ⟨hNC.then fC (fun i hi => .inr (by omega)), ⟨og, q2.kept fC (fun g' hg' e => ?_), q3⟩, fun z hz => ?_⟩
    · have := ogr_tg q2 g' hg'
      rw [e, tC] at this; exact absurd this (by decide)
    · obtain ⟨⟨od, z1, z2⟩, oe, z3, z4⟩ := q4 z hz
      refine ⟨⟨od, z1.kept fC (fun g' hg' e => ?_), z2⟩, oe, z3.kept fC (fun g' hg' e => ?_), z4⟩
      · rw [hg'] at z1
        have := z1.tg
        rw [e, tC] at this; exact absurd this (by decide)
      · have := ogr_tg z3 g' hg'
        rw [e, tC] at this; exact absurd this (by decide)
theorem cret {R : Ending → World → Prop} {a : Act} {w : World} {row : Array Value} (rs : Nat) (h2 : a.tmps.getD 2 undef = .pointer (some ⟨rs, 0, none⟩)) (hrow : w.heap[rs]? = some (.cells row 24)) (hsz : row.size = 4) (hd : a.defers = []) (hR : R (.returned (.agg row)) w) : bodyPost Tryz.prog Tryz.f10 R .ret a w := by
  have hi : (Tryz.prog.info? 24).map (·.size) = some row.size := by rw [hsz]; kernel_rfl
  have hl := run_loadVar_row (P := Tryz.prog) w rs 24 24 row (0, 0) _ hrow Tryz.underlying24 rfl hi
  have hp2 : a.tmps[2]?.getD undef = .pointer (some ⟨rs, 0, none⟩) := by simpa using h2
  refine bodyPost_ret ?_ hd hR
  simp [results, hp2, asAddr, hl]
/-- What Copy answers: the same image, in memory of its own. -/
def CpO (w : World) (X : Im) (e : Ending) (w' : World) : Prop := ∃ a n c l, e = .returned (imV X (.slice a n c)) ∧ ImI w (.slice a n c) l w' ∧ l.map Nq.x = X.l ∧ l.length = n
section
attribute [local go_sem ↓] appV_fold
set_option maxHeartbeats 16000000 in
theorem copy_any (X : Im) (l : List Nq) (a : Option Addr) (n c : Nat) (hl : l.map Nq.x = X.l) (hn : n = l.length) (hm : ImR (.slice a n c) l w) (hw : ∀ y ∈ l, NdW y.x) (hn9 : n ≤ 1000000000) :
    Calls Tryz.prog 10 #[imV X (.slice a n c)] w (CpO w X) := by
  obtain ⟨P, hP⟩ : ∃ P : Ending → World → Prop, P = CpO w X := ⟨_, rfl⟩
  rw [← hP]
  obtain ⟨V, hV⟩ : ∃ V, (w.alloc (.cells #[.int .i64 X.nodes, .int .i64 X.bytes, .int .i64 X.next, .slice a n c] 24)).alloc (.cells imZ 24) = V := ⟨_, rfl⟩
  have hNV : Nw w V := by rw [← hV]; exact ((Fr.refl _ _).alloc _).alloc _
  have hp0 : V.heap[w.heap.size]? = some (.cells #[.int .i64 X.nodes, .int .i64 X.bytes, .int .i64 X.next, .slice a n c] 24) := by
    rw [← hV]
    exact Nw.heap ((Fr.refl _ _).alloc _) (nh w _)
  have hr0 : V.heap[w.heap.size + 1]? = some (.cells imZ 24) := by
    rw [← hV]
    have e : (w.alloc (.cells #[.int .i64 X.nodes, .int .i64 X.bytes, .int .i64 X.next, .slice a n c] 24)).heap.size = w.heap.size + 1 := by simp
    rw [← e]
    exact nh _ _
  have i3 := (rc hp0 3 _ rfl).1
  have f3 := (rc hp0 3 (.slice a n c) rfl).2
  obtain ⟨W0, hW0⟩ : ∃ W0, V.setCell ⟨w.heap.size, 3, none⟩ (.slice none 0 0) = W0 := ⟨_, rfl⟩
  have fW : Fr (fun k => k = w.heap.size) V W0 := by rw [← hW0]; exact (Fr.refl (fun k => k = w.heap.size) V).setCell ⟨w.heap.size, 3, none⟩ _ (.inl rfl)
  have hNW : Nw w W0 := hNV.then fW (fun i hi => .inr (by omega))
  have HC0 : Hid (CpI w X [] none 0 0 W0) := ⟨hNW, by rw [← hW0]; exact rset hp0 3 _, fW.heap hr0 (by omega), [], ⟨hNW, ⟨none, ⟨rfl, rfl⟩, fun g hg => by cases hg⟩, fun y hy => by cases hy⟩, rfl, rfl⟩
  have HM := tHid hm
  have HL := tHid hl
  have HNN := tHid hn
  have HWW := tHid hw
  have HN9 := tHid hn9
  have HPE := tHid hP
  have HV := tHid hV
  clear hP hV hNV hp0 hr0 fW hNW hm hl hn hw hn9
  go_enter Tryz.func10, Tryz.ntmps10
  go_upto_region 1 with fail
  rw [HV.out]
  clear HV
  go_wp2_with fail
  clear i3 f3 hW0
  go_loopg [4] n (fun kx i wr => ∃ (I : Nat) (b : Option Addr) (d : Nat), I ≤ n ∧ n - I ≤ kx ∧ i = .int .i64 I ∧ Hid (CpI w X (X.l.take I) b d I wr))
  case atStart => exact ⟨0, none, 0, by omega, by omega, rfl, HC0⟩
  case round =>
    clear HC0
    obtain ⟨I, b, d, hI, hkx, rfl, HR⟩ := hrel
    by_cases hlt : I < n
    · have hIl : I < l.length := by rw [← HNN.out]; exact hlt
      obtain ⟨g, o, rfl, hc⟩ := (HM.out.nw HR.out.1).at I hIl
      obtain ⟨y, hy⟩ : ∃ y, l[I] = y := ⟨_, rfl⟩
      rw [hy] at hc
      have hmy : y ∈ l := by rw [← hy]; exact List.getElem_mem hIl
      obtain ⟨c0, c1, c2, c3, c4, c5, c6, c7, c8, c9⟩ := hc
      have hry : NqR y wr := (HM.out.nw HR.out.1).2 y hmy
      have htk : X.l.take (I + 1) = X.l.take I ++ [y.x] := by
        rw [List.take_add_one, ← HL.out, List.getElem?_map, List.getElem?_eq_getElem hIl, hy]; rfl
      obtain ⟨V3, hV3⟩ : ∃ V3, wr.alloc (.cells (nqC y) 44) = V3 := ⟨_, rfl⟩
      have hN3 : Nw wr V3 := by rw [← hV3]; exact (Fr.refl _ _).alloc _
      have hd3 := NqC.made wr y
      rw [hV3] at hd3
      obtain ⟨da, dc, A2, A3, ea, ec, B2, B3, a', c', C2, C3, b1, b2, ⟨u1, b3⟩, b4, b5, b6, b7, b8, ⟨u2, b9⟩, b10, b11, b12, b13, b14, b15, b16, b17⟩ := cp_step HR.out (by have := HN9.out; omega) y hry (HWW.out y hmy) hV3
      obtain ⟨_, _, _, _, _, _, _, z7, _, _⟩ := hd3
      simp only [Nat.zero_add] at z7
      have y7 : (V3.alloc (.cells #[] 5)).cell? ⟨wr.heap.size, 7, none⟩ = some (.slice y.d.a y.d.n y.d.c) := Nw.cell ((Fr.refl _ _).alloc _) z7
      obtain ⟨x0, x1, x2, x3, x4, x5, x6, x7, x8, x9⟩ := b12
      simp only [Nat.zero_add] at x1 x2 x3 x4 x5 x6 x7 x8 x9
      rw [← htk] at b17
      have HNX := tHid b17
      have hlt2 : (I : Int) < (n : Int) := by omega
      have hltd := decide_eq_true hlt2
      have hltn := decide_eq_true hlt
      have zwj : IntKind.i64.wrap ((I : Int) + 1) = (I : Int) + 1 := by rw [IntKind.wrap_i64]; have := HN9.out; omega
      have HV3 := tHid hV3
      unfold nqC at HV3
      simp only [nqC] at b13
      clear hIl hy hmy hry htk hV3 hN3 HR HM HL HWW b17 HPE
      go_upto_region 7 with fail
      rw [HV3.out]
      clear HV3 c0 c1 c2 c3 c4 c5 c6 c7 c8 c9
      go_wp2_with fail
      go_roundg (n - (I + 1))
      case measure => omega
      case rel => exact ⟨I + 1, a', c', by omega, by omega, by first | rfl | (congr 1), HNX⟩
    · have hIe : I = n := by omega
      have hlt2 : ¬ (I : Int) < (n : Int) := by omega
      have hltd := decide_eq_false hlt2
      have hltn := decide_eq_false hlt
      obtain ⟨k1, k2, k3, lq, k5, k6, k7⟩ := HR.out
      have y0 := (rc k2 0 _ rfl).1
      have y1 := (rc k2 1 _ rfl).1
      have y2 := (rc k2 2 _ rfl).1
      have y3 := (rc k2 3 _ rfl).1
      have r0 := (rc k3 0 _ rfl).1
      have g0 := (rc k3 0 (.int .i64 0) rfl).2
      obtain ⟨R1, hR1⟩ : ∃ R1, wr.setCell ⟨w.heap.size + 1, 0, none⟩ (.int .i64 X.nodes) = R1 := ⟨_, rfl⟩
      have e1 : R1.heap[w.heap.size + 1]? = some (.cells #[.int .i64 X.nodes, .int .i64 0, .int .i64 0, .slice none 0 0] 24) := by rw [← hR1]; exact rset k3 0 _
      have r1 := (rc e1 1 _ rfl).1
      have g1 := (rc e1 1 (.int .i64 0) rfl).2
      obtain ⟨R2, hR2⟩ : ∃ R2, R1.setCell ⟨w.heap.size + 1, 1, none⟩ (.int .i64 X.bytes) = R2 := ⟨_, rfl⟩
      have e2 : R2.heap[w.heap.size + 1]? = some (.cells #[.int .i64 X.nodes, .int .i64 X.bytes, .int .i64 0, .slice none 0 0] 24) := by rw [← hR2]; exact rset e1 1 _
      have r2 := (rc e2 2 _ rfl).1
      have g2 := (rc e2 2 (.int .i64 0) rfl).2
      obtain ⟨R3, hR3⟩ : ∃ R3, R2.setCell ⟨w.heap.size + 1, 2, none⟩ (.int .i64 X.next) = R3 := ⟨_, rfl⟩
      have e3 : R3.heap[w.heap.size + 1]? = some (.cells #[.int .i64 X.nodes, .int .i64 X.bytes, .int .i64 X.next, .slice none 0 0] 24) := by rw [← hR3]; exact rset e2 2 _
      have r3 := (rc e3 3 _ rfl).1
      have g3 := (rc e3 3 (.slice none 0 0) rfl).2
      obtain ⟨R4, hR4⟩ : ∃ R4, R3.setCell ⟨w.heap.size + 1, 3, none⟩ (.slice b I d) = R4 := ⟨_, rfl⟩
      have e4 : R4.heap[w.heap.size + 1]? = some (.cells (ciC X (.slice b I d)) 24) := by rw [← hR4]; exact rset e3 3 _
      have fs : Fr (fun k => k = w.heap.size + 1) wr R4 := by
        rw [← hR4, ← hR3, ← hR2, ← hR1]
        exact ((((Fr.refl (fun k => k = w.heap.size + 1) wr).setCell ⟨w.heap.size + 1, 0, none⟩ _ (.inl rfl)).setCell ⟨w.heap.size + 1, 1, none⟩ _ (.inl rfl)).setCell ⟨w.heap.size + 1, 2, none⟩ _ (.inl rfl)).setCell ⟨w.heap.size + 1, 3, none⟩ _ (.inl rfl)
      have tW := tg_cells k3
      have HF : Hid (P (.returned (.agg (ciC X (.slice b I d)))) R4) := by
        show P _ _
        rw [HPE.out]
        have hlenX : X.l.length = n := by rw [← HL.out, List.length_map, HNN.out]
        refine ⟨b, I, d, lq, rfl, ?_, by rw [k6, hIe, ← hlenX, List.take_length], k7⟩
        obtain ⟨q1, ⟨og, q2, q3⟩, q4⟩ := k5
        refine ⟨q1.then fs (fun i hi => .inr (by omega)), ⟨og, q2.kept fs (fun g' hg' e => ?_), q3⟩, fun z hz => ?_⟩
        · have := ogr_tg q2 g' hg'
          rw [e, tW] at this; exact absurd this (by decide)
        · obtain ⟨⟨od, z1, z2⟩, oe, z3, z4⟩ := q4 z hz
          refine ⟨⟨od, z1.kept fs (fun g' hg' e => ?_), z2⟩, oe, z3.kept fs (fun g' hg' e => ?_), z4⟩
          · rw [hg'] at z1
            have := z1.tg
            rw [e, tW] at this; exact absurd this (by decide)
          · have := ogr_tg z3 g' hg'
            rw [e, tW] at this; exact absurd this (by decide)
      have HROW := tHid e4
      clear HR HM HL HWW HNN HN9 HPE k1 k2 k3 k5 k6 k7 e1 e2 e3 e4 fs tW hIe
      go_wp2_with fail
      exact cret (w.heap.size + 1) (by first | rfl | simp [Act.put]) HROW.out rfl rfl HF.out
end
end Go.Proofs.YtcogkhcfpgelhabGreat

namespace Go.Proofs.YtcogkhcfpgelhabGreat
open Go.RowKit
set_option linter.unusedVariables false
set_option maxRecDepth 100000
variable {fb mb : Nat} {ot : Option Nat} {L : Int → Lay} {h : Hx} {q : Int → Option Pn} {cnt : Nat} {T : List Ac} {w w' : World} {X : Nat → Prop}
def MvF (fb mb : Nat) (ot : Option Nat) (L : Int → Lay) (h : Hx) (q : Int → Option Pn) (cnt : Nat) (T : List Ac) (d t x : Int) (s s2 : Tx) (wy : Option (Int × Pn)) (px2 : Pn) (w w' : World) : Prop :=
  FsH fb mb ot L (leaH (wayH h wy) px2) (leaQ (entQ (wayQ q t s2 wy) t s2 x) d s x px2) (leaN (wayN cnt wy) px2) T w' ∧ Fr (Bk fb mb ot L q) w w'
set_option maxHeartbeats 8000000 in
theorem move_fr (H : FsH fb mb ot L h q cnt T w) (d t x : Int) (hd64 : I64 d) (ht64 : I64 t) (hx64 : I64 x) (s s2 : Tx) (hs : s.length ≤ 140737488351232) (hs2 : s2.length ≤ 140737488351232)
    {pd pt : Pn} (hd : q d = some pd) (hkd : pd.kind = 1) (hfd : pd.ents s = some x) (ht : q t = some pt) (hkt : pt.kind = 1) (wy : Option (Int × Pn)) (hw : WayOk q h t pt s2 wy)
    {pt1 px1 : Pn} (ht1 : wayQ q t s2 wy t = some pt1) (hk1 : pt1.kind = 1) (hf1 : pt1.ents s2 = none) (hn1 : pt1.ne ≤ 1000000000000000) (hx1 : wayQ q t s2 wy x = some px1) (htx : t ≠ x) (hl1 : 0 ≤ px1.links ∧ px1.links ≤ 1000000000000000)
    {pd2 px2 : Pn} (hd2 : entQ (wayQ q t s2 wy) t s2 x d = some pd2) (hk2 : pd2.kind = 1) (hf2 : pd2.ents s = some x) (hx2 : entQ (wayQ q t s2 wy) t s2 x x = some px2) (hdx : d ≠ x) (hl2 : 1 ≤ px2.links ∧ px2.links ≤ 1000000000000000) (hh2 : 0 ≤ (wayH h wy).held ∧ (wayH h wy).held ≤ 1000000000000000 ∧ px2.data.length ≤ 1000000000000000)
    {px : Pn} (hqx : q x = some px) :
    Calls Tryz.prog 62 #[.pointer (some ⟨fb, 0, none⟩), .agg #[.int .i64 d, .string (mk s)], .agg #[.int .i64 t, .string (mk s2)]] w fun e w' => (∃ r, e = .returned r) ∧ MvF fb mb ot L h q cnt T d t x s s2 wy px2 w w' := by
  obtain ⟨P, hP⟩ : ∃ P : Ending → World → Prop, P = fun e w' => (∃ r, e = .returned r) ∧ MvF fb mb ot L h q cnt T d t x s s2 wy px2 w w' := ⟨_, rfl⟩
  rw [← hP]
  obtain ⟨V2, hV2⟩ : ∃ V2, V2 = (w.alloc (.cells #[.int .i64 d, .string (mk s)] 110)).alloc (.cells #[.int .i64 t, .string (mk s2)] 110) := ⟨_, rfl⟩
  have hN2 : Nw w V2 := by rw [hV2]; exact ((Fr.refl _ _).alloc _).alloc _
  have hs1 : (w.alloc (.cells #[.int .i64 d, .string (mk s)] 110)).heap.size = w.heap.size + 1 := by simp
  have hsz2 : V2.heap.size = w.heap.size + 2 := by rw [hV2]; simp
  have hfm : fb < w.heap.size ∧ mb < w.heap.size := ⟨H.lt _ (.inl rfl), H.lt _ (.inr (.inl rfl))⟩
  have HB : Hid (∀ V, Fr (Bk fb mb ot L q) V2 V → V.cell? ⟨w.heap.size, 0, none⟩ = some (.int .i64 d) ∧ V.cell? ⟨w.heap.size, 1, none⟩ = some (.string (mk s)) ∧ V.cell? ⟨w.heap.size + 1, 0, none⟩ = some (.int .i64 t) ∧ V.cell? ⟨w.heap.size + 1, 1, none⟩ = some (.string (mk s2))) := fun V hV => by
    have hn : Nw (w.alloc (.cells #[.int .i64 d, .string (mk s)] 110)) V2 := by rw [hV2]; exact (Fr.refl _ _).alloc _
    have a1 : ∀ j v, (#[.int .i64 d, .string (mk s)] : Array Value)[j]? = some v → V2.cell? ⟨w.heap.size, j, none⟩ = some v := fun j v hv => hn.cell (rc (nh w _) j v hv).1
    have a2 : ∀ j v, (#[.int .i64 t, .string (mk s2)] : Array Value)[j]? = some v → V2.cell? ⟨w.heap.size + 1, j, none⟩ = some v := fun j v hv => by
      rw [hV2, ← hs1]; exact (rc (nh _ _) j v hv).1
    exact ⟨hV.cellv (a1 0 _ rfl) (fun hK => by have : w.heap.size < w.heap.size := H.lt _ hK; omega), hV.cellv (a1 1 _ rfl) (fun hK => by have : w.heap.size < w.heap.size := H.lt _ hK; omega), hV.cellv (a2 0 _ rfl) (fun hK => by have : w.heap.size + 1 < w.heap.size := H.lt _ hK; omega), hV.cellv (a2 1 _ rfl) (fun hK => by have : w.heap.size + 1 < w.heap.size := H.lt _ hK; omega)⟩
  have HA1 : Hid (Calls Tryz.prog 55 #[.pointer (some ⟨fb, 0, none⟩), .agg #[.int .i64 d, .string (mk s)]] V2 fun e w' => e = .returned (.int .i64 x) ∧ Hid (Nw V2 w')) := by
    have := at_any (H.nw hN2) d hd64 s hs hd hkd
    rw [hfd] at this
    exact this
  have HA2 : Hid (∀ V, Nw V2 V → Calls Tryz.prog 55 #[.pointer (some ⟨fb, 0, none⟩), .agg #[.int .i64 t, .string (mk s2)]] V fun e w' => e = .returned (.int .i64 ((pt.ents s2).getD 0)) ∧ Hid (Nw V2 w')) := fun V hV => (at_any (H.nw (hN2.trans hV)) t ht64 s2 hs2 ht hkt).mono (fun e w' hh => ⟨hh.1, hV.trans hh.2⟩)
  obtain ⟨S1, hS1⟩ : ∃ S1 : World → Prop, S1 = fun V => FsH fb mb ot L (wayH h wy) (wayQ q t s2 wy) (wayN cnt wy) T V ∧ Fr (Bk fb mb ot L q) V2 V := ⟨_, rfl⟩
  have HW : Hid (∀ y py, wy = some (y, py) → ∀ V, Nw V2 V → Calls Tryz.prog 77 #[.pointer (some ⟨fb, 0, none⟩), .agg #[.int .i64 t, .string (mk s2)]] V fun e w' => (∃ r, e = .returned r) ∧ Hid (S1 w')) := fun y py e V hV => by
    subst e
    obtain ⟨w1, w2, w3, w4, w5, w6, w7⟩ := hw
    refine Calls.mono (leave_any (H.nw (hN2.trans hV)) t y ht64 w3 s2 hs2 ht hkt w1 w4 w5 w6 w7) ?_
    rintro e w' ⟨hr, g1, g2⟩
    refine ⟨hr, ?_⟩
    show S1 w'
    rw [hS1]
    exact ⟨g1, hV.any.trans (g2.mono (fun i hi => .inl (by
      rcases hi with rfl | rfl | rfl | rfl
      · exact .inr (.inr (.inr ⟨t, pt, ht, .inr (.inl ⟨hkt, rfl⟩)⟩))
      · exact .inr (.inr (.inr ⟨y, py, w4, .inl rfl⟩))
      · exact .inl rfl
      · exact .inr (.inl rfl))))⟩
  have HW0 : Hid (wy = none → ∀ V, Nw V2 V → S1 V) := fun e V hV => by
    subst e
    rw [hS1]
    exact ⟨H.nw (hN2.trans hV), hV.any⟩
  obtain ⟨S2, hS2⟩ : ∃ S2 : World → Prop, S2 = fun V => FsH fb mb ot L (wayH h wy) (entQ (wayQ q t s2 wy) t s2 x) (wayN cnt wy) T V ∧ Fr (Bk fb mb ot L q) V2 V := ⟨_, rfl⟩
  have HEn : Hid (∀ V, S1 V → Calls Tryz.prog 56 #[.pointer (some ⟨fb, 0, none⟩), .agg #[.int .i64 t, .string (mk s2)], .int .i64 x] V fun e w' => (∃ r, e = .returned r) ∧ Hid (S2 w')) := fun V hV => by
    rw [hS1] at hV
    refine Calls.mono (enter_any hV.1 t x ht64 hx64 s2 hs2 ht1 hk1 hf1 hn1 hx1 htx hl1) ?_
    rintro e w' ⟨hr, g1, g2⟩
    refine ⟨hr, ?_⟩
    show S2 w'
    rw [hS2]
    exact ⟨g1, hV.2.trans (g2.mono (fun i hi => .inl (by
      rcases hi with rfl | rfl
      · exact .inr (.inr (.inr ⟨t, pt, ht, .inr (.inl ⟨hkt, rfl⟩)⟩))
      · exact .inr (.inr (.inr ⟨x, px, hqx, .inl rfl⟩)))))⟩
  have HLv : Hid (∀ V, S2 V → Calls Tryz.prog 77 #[.pointer (some ⟨fb, 0, none⟩), .agg #[.int .i64 d, .string (mk s)]] V fun e w' => (∃ r, e = .returned r) ∧ Hid (∀ r, P (.returned r) w')) := fun V hV => by
    rw [hS2] at hV
    refine Calls.mono (leave_any hV.1 d x hd64 hx64 s hs hd2 hk2 hf2 hx2 hdx hl2 hh2) ?_
    rintro e w' ⟨hr, g1, g2⟩
    refine ⟨hr, fun r => ?_⟩
    rw [hP]
    exact ⟨⟨r, rfl⟩, g1, (hN2.any.trans hV.2).trans (g2.mono (fun i hi => .inl (by
      rcases hi with rfl | rfl | rfl | rfl
      · exact .inr (.inr (.inr ⟨d, pd, hd, .inr (.inl ⟨hkd, rfl⟩)⟩))
      · exact .inr (.inr (.inr ⟨x, px, hqx, .inl rfl⟩))
      · exact .inl rfl
      · exact .inr (.inl rfl))))⟩
  have HBN : Hid (∀ V, S1 V → Fr (Bk fb mb ot L q) V2 V) := fun V hV => by rw [hS1] at hV; exact hV.2
  have HBN2 : Hid (∀ V, S2 V → Fr (Bk fb mb ot L q) V2 V) := fun V hV => by rw [hS2] at hV; exact hV.2
  obtain ⟨c0, c1, c2, c3⟩ := HB.out V2 (Fr.refl _ _)
  have HV := tHid hV2
  cases wy with
  | none =>
    have hpn : pt.ents s2 = none := hw
    rw [hpn] at HA2
    clear H hP hV2 hN2 hs1 hsz2 hfm hd hkd hfd ht hkt hw ht1 hk1 hf1 hn1 hx1 htx hl1 hd2 hk2 hf2 hx2 hdx hl2 hh2 hqx hS1 hS2 HW hpn hs hs2 hd64 ht64 hx64
    generalize mk s = ss at *
    generalize mk s2 = ss2 at *
    go_enter Tryz.func62, Tryz.ntmps62
    go_upto_region 1 with fail
    rw [← HV.out]
    clear HV
    go_upto_region 2 with (first | (go_at_call 55; with_reducible refine HA1.out.mono ?_; rintro e w3 ⟨rfl, H3⟩))
    obtain ⟨d0, d1, d2, d3⟩ := HB.out w3 H3.out.any
    have CA2 := tHid (HA2.out w3 H3.out)
    clear HA1 HA2 c0 c1 c2 c3
    go_upto_region 4 with (first | (go_at_call 55; with_reducible refine CA2.out.mono ?_; rintro e w4 ⟨rfl, H4⟩))
    obtain ⟨e0, e1, e2, e3⟩ := HB.out w4 H4.out.any
    have CE := tHid (HEn.out w4 (HW0.out (by first | trivial | rfl) w4 H4.out))
    clear CA2 d0 d1 d2 d3 HEn HW0
    go_upto_region 5 with (first | (go_at_call 56; with_reducible refine CE.out.mono ?_; rintro e w5 ⟨⟨r5, rfl⟩, H5⟩))
    obtain ⟨k0, k1, k2, k3⟩ := HB.out w5 (HBN2.out w5 H5.out)
    have CL := tHid (HLv.out w5 H5.out)
    clear CE e0 e1 e2 e3 HLv HB HBN HBN2 H3 H4 H5
    go_wp2_with (first | (go_at_call 77; with_reducible refine CL.out.mono ?_; rintro e w6 ⟨⟨r6, rfl⟩, HF⟩))
    go_end0
    exact HF.out _
  | some z =>
    obtain ⟨y, py⟩ := z
    obtain ⟨hpn, hy0, _⟩ := id hw
    have hyb : (y != 0) = true := by simp [hy0]
    rw [hpn] at HA2
    have HW1 := tHid (HW.out y py rfl)
    clear H hP hV2 hN2 hs1 hsz2 hfm hd hkd hfd ht hkt hw ht1 hk1 hf1 hn1 hx1 htx hl1 hd2 hk2 hf2 hx2 hdx hl2 hh2 hqx hS1 hS2 HW HW0 hpn hs hs2 hd64 ht64 hx64
    generalize mk s = ss at *
    generalize mk s2 = ss2 at *
    go_enter Tryz.func62, Tryz.ntmps62
    go_upto_region 1 with fail
    rw [← HV.out]
    clear HV
    go_upto_region 2 with (first | (go_at_call 55; with_reducible refine HA1.out.mono ?_; rintro e w3 ⟨rfl, H3⟩))
    obtain ⟨d0, d1, d2, d3⟩ := HB.out w3 H3.out.any
    have CA2 : Hid (Calls Tryz.prog 55 #[.pointer (some ⟨fb, 0, none⟩), .agg #[.int .i64 t, .string ss2]] w3 fun e w' => e = .returned (.int .i64 y) ∧ Hid (Nw V2 w')) := HA2.out w3 H3.out
    clear HA1 HA2 c0 c1 c2 c3
    go_upto_region 3 with (first | (go_at_call 55; with_reducible refine CA2.out.mono ?_; rintro e w4 ⟨rfl, H4⟩))
    obtain ⟨e0, e1, e2, e3⟩ := HB.out w4 H4.out.any
    have CW := tHid (HW1.out w4 H4.out)
    clear CA2 d0 d1 d2 d3 HW1
    go_upto_region 4 with (first | (go_at_call 77; with_reducible refine CW.out.mono ?_; rintro e w7 ⟨⟨r7, rfl⟩, H7⟩))
    obtain ⟨n0, n1, n2, n3⟩ := HB.out w7 (HBN.out w7 H7.out)
    have CE := tHid (HEn.out w7 H7.out)
    clear CW e0 e1 e2 e3 HEn
    go_upto_region 5 with (first | (go_at_call 56; with_reducible refine CE.out.mono ?_; rintro e w5 ⟨⟨r5, rfl⟩, H5⟩))
    obtain ⟨k0, k1, k2, k3⟩ := HB.out w5 (HBN2.out w5 H5.out)
    have CL := tHid (HLv.out w5 H5.out)
    clear CE n0 n1 n2 n3 HLv HB HBN HBN2 H3 H4 H5 H7
    go_wp2_with (first | (go_at_call 77; with_reducible refine CL.out.mono ?_; rintro e w6 ⟨⟨r6, rfl⟩, HF⟩))
    go_end0
    exact HF.out _
end Go.Proofs.YtcogkhcfpgelhabGreat

namespace Go.Proofs.YtcogkhcfpgelhabGreat
open Go.RowKit
set_option linter.unusedVariables false
set_option maxRecDepth 100000
/-! ### Rename, pure -/
open Classical in
noncomputable def stkP (l : List Nd) (x y t : Int) : Int := if y ≠ 0 ∧ (isDirQ (qOf l) x != isDirQ (qOf l) y) = true then 106 else if isDirQ (qOf l) x = true ∧ Sub l x t then 108 else if y ≠ 0 ∧ neQ (qOf l) y = true then 109 else 0
/-- The inode that an entry names; 0: none does. -/
def entX (l : List Nd) (d : Int) (s : Tx) : Int := ((get l d).bind (fun x => entL x.ents s)).getD 0
noncomputable def renE (l : List Nd) (d : Int) (s : Tx) (t : Int) (s2 : Tx) : Int := if unfQ (qOf l) [(d, s), (t, s2)] ≠ 0 then unfQ (qOf l) [(d, s), (t, s2)] else if entX l d s = 0 then 103 else if entX l d s = entX l t s2 then 0 else stkP l (entX l d s) (entX l t s2) t
def wayL (l : List Nd) (t : Int) (s2 : Tx) (y : Int) : List Nd := if y = 0 then l else leaL l t s2 y
def renR (l : List Nd) (d : Int) (s : Tx) (t : Int) (s2 : Tx) : List Nd := if entX l d s = entX l t s2 then l else renL (wayL l t s2 (entX l t s2)) d s t s2 (entX l d s)
theorem unfQ_two {q : Int → Option Pn} {d t : Int} {s s2 : Tx} (hu : unfQ q [(d, s), (t, s2)] = 0) : (∃ pd, q d = some pd ∧ pd.kind = 1) ∧ (∃ pt, q t = some pt ∧ pt.kind = 1) ∧ nmOk s = true ∧ nmOk s2 = true := by
  unfold unfQ at hu
  simp only [List.any_cons, List.any_nil, Bool.or_false] at hu
  split at hu
  · cases hu
  · rename_i h1
    split at hu
    · cases hu
    · rename_i h2
      split at hu
      · cases hu
      · rename_i h3
        simp only [Bool.or_eq_true, not_or, Bool.not_eq_true', Bool.not_eq_true, Bool.not_eq_false] at h1 h2 h3
        have dir : ∀ k, isDirQ q k = true → ∃ p, q k = some p ∧ p.kind = 1 := fun k h => by
          unfold isDirQ at h
          cases hq : q k with
          | none => rw [hq] at h; cases h
          | some p => rw [hq] at h; exact ⟨p, rfl, by simpa using h⟩
        exact ⟨dir d h2.1, dir t h2.2, h3.1, h3.2⟩
theorem wf_entOk {X : Im} (h : WF X) {d n : Int} {s : Tx} {xd : Nd} (hd : get X.l d = some xd) (he : entL xd.ents s = some n) : ∃ xn, get X.l n = some xn ∧ n ≠ 1 ∧ 1 ≤ n ∧ n < X.next ∧ d ≠ n ∧ xd.kind = 1 := by
  obtain ⟨hm, hn⟩ := get_some hd
  obtain ⟨_, h1, y, hy, hyn⟩ := h.es xd hm _ (entL_some he)
  have hg := h.get hy
  rw [hyn] at hg
  have hk : xd.kind = 1 := by
    by_cases hk : xd.kind = 1
    · exact hk
    · rw [(h.kinds xd hm).noents hk] at he; cases he
  have := h.nums y hy
  exact ⟨y, hg, h1, by omega, by omega, wf_noself h hd he, hk⟩
theorem get_leaL {l : List Nd} (hs : Srt l) {t y : Int} {s2 : Tx} (k : Int) (hk : k ≠ y) : get (leaL l t s2 y) k = if k = t then (get l k).map (fun x => { x with ents := delE s2 x.ents }) else get l k := by
  unfold leaL
  split
  · rw [get_dropL, if_neg hk, get_rmvE]
  · rw [get_rmvE]
/-- All that Rename needs to know where it is not stuck. -/
structure RenF (X : Im) (d : Int) (s : Tx) (t : Int) (s2 : Tx) (x y : Int) (xd xt xx : Nd) : Prop where
  hd : get X.l d = some xd
  ht : get X.l t = some xt
  hx : get X.l x = some xx
  he : entL xd.ents s = some x
  kd : xd.kind = 1
  kt : xt.kind = 1
  n2 : nmOk s2 = true
  dx : d ≠ x
  tx : t ≠ x
  xy : x ≠ y
  ns : xx.kind = 1 → ¬ Sub X.l x t
  way : (y = 0 ∧ entL xt.ents s2 = none) ∨ (y ≠ 0 ∧ ∃ xy, entL xt.ents s2 = some y ∧ get X.l y = some xy ∧ xy.ents = [] ∧ t ≠ y ∧ d ≠ y)
theorem isDir_get {l : List Nd} {k : Int} {x : Nd} (h : get l k = some x) : isDirQ (qOf l) k = decide (x.kind = 1) := by
  unfold isDirQ
  rw [qOf_get h]; rfl
theorem ne_get {l : List Nd} {k : Int} {x : Nd} (h : get l k = some x) : neQ (qOf l) k = decide (0 < x.ents.length) := by
  unfold neQ
  rw [qOf_get h]; rfl
theorem renF_of {X : Im} (h : WF X) {d : Int} {s : Tx} {t : Int} {s2 : Tx} (hu : unfQ (qOf X.l) [(d, s), (t, s2)] = 0) (h0 : entX X.l d s ≠ 0) (hxy : entX X.l d s ≠ entX X.l t s2) (hst : stkP X.l (entX X.l d s) (entX X.l t s2) t = 0) : ∃ xd xt xx, RenF X d s t s2 (entX X.l d s) (entX X.l t s2) xd xt xx := by
  obtain ⟨⟨pd, hpd, hkd⟩, ⟨pt, hpt, hkt⟩, hn1, hn2⟩ := unfQ_two hu
  obtain ⟨xd, hgd, hdm, hdn, rfl⟩ := qOf_some hpd
  obtain ⟨xt, hgt, htm, htn, rfl⟩ := qOf_some hpt
  have kd : xd.kind = 1 := hkd
  have kt : xt.kind = 1 := hkt
  have ed : entX X.l d s = (entL xd.ents s).getD 0 := by unfold entX; rw [hgd]; rfl
  have et : entX X.l t s2 = (entL xt.ents s2).getD 0 := by unfold entX; rw [hgt]; rfl
  have he : entL xd.ents s = some (entX X.l d s) := by
    cases hc : entL xd.ents s with
    | none => rw [hc] at ed; exact absurd ed h0
    | some z => rw [hc] at ed; rw [ed]; rfl
  obtain ⟨xx, hgx, hx1, _, _, hdx, _⟩ := wf_entOk h hgd he
  unfold stkP at hst
  split at hst
  · cases hst
  · rename_i s1
    split at hst
    · cases hst
    · rename_i s2'
      split at hst
      · cases hst
      · rename_i s3
        have ns : xx.kind = 1 → ¬ Sub X.l (entX X.l d s) t := fun hk hs => s2' ⟨by rw [isDir_get hgx, hk]; rfl, hs⟩
        have tx : t ≠ entX X.l d s := fun e => by
          have hxt : xx = xt := by rw [← e, hgt] at hgx; injection hgx with hgx; exact hgx.symm
          have := ns (by rw [hxt]; exact kt)
          rw [← e] at this
          exact this .refl
        refine ⟨xd, xt, xx, hgd, hgt, hgx, he, kd, kt, hn2, hdx, tx, hxy, ns, ?_⟩
        cases hc : entL xt.ents s2 with
        | none => exact .inl ⟨by rw [et, hc]; rfl, rfl⟩
        | some y =>
          have ey : entX X.l t s2 = y := by rw [et, hc]; rfl
          obtain ⟨xy, hgy, hy1, hy2, _, hty, _⟩ := wf_entOk h hgt hc
          have hy0 : entX X.l t s2 ≠ 0 := by rw [ey]; omega
          have hye : xy.ents = [] := by
            have : ¬ neQ (qOf X.l) (entX X.l t s2) = true := fun h => s3 ⟨hy0, h⟩
            rw [ey, ne_get hgy] at this
            simp only [decide_eq_true_eq] at this
            exact List.eq_nil_of_length_eq_zero (by omega)
          have hdy : d ≠ y := fun e => by
            rw [e, hgy] at hgd
            injection hgd with hgd
            rw [← hgd, hye] at he
            cases he
          exact .inr ⟨hy0, xy, by rw [ey], by rw [ey]; exact hgy, hye, by rw [ey]; exact hty, by rw [ey]; exact hdy⟩
/-- Behind what was in the way. -/
theorem RenF.way1 {X : Im} (h : WF X) {d : Int} {s : Tx} {t : Int} {s2 : Tx} {x y : Int} {xd xt xx : Nd} (r : RenF X d s t s2 x y xd xt xx) : WF { X with l := wayL X.l t s2 y } ∧ ∃ xd1 xt1 xx1, Ren { X with l := wayL X.l t s2 y } d s t s2 x xd1 xt1 xx1 ∧ xd1.kind = 1 := by
  rcases r.way with ⟨hy, hf⟩ | ⟨hy, xy, hf, hgy, hye, hty, hdy⟩
  · have e : wayL X.l t s2 y = X.l := by unfold wayL; rw [if_pos hy]
    have hX : ({ X with l := wayL X.l t s2 y } : Im) = X := by rw [e]
    rw [hX]
    exact ⟨h, xd, xt, xx, ⟨r.hd, r.ht, r.hx, r.he, hf, r.kt, r.n2, r.ns⟩, r.kd⟩
  · have e : wayL X.l t s2 y = leaL X.l t s2 y := by unfold wayL; rw [if_neg hy]
    rw [e]
    refine ⟨wf_lea h r.ht hf hgy hty hye, ?_⟩
    have hne : d = t → s ≠ s2 := fun e1 e2 => by
      subst e1 e2
      have h1 := r.hd
      rw [r.ht] at h1
      injection h1 with h1
      have h2 := r.he
      rw [← h1, hf] at h2
      injection h2 with h2
      exact r.xy h2.symm
    have hgt : get (leaL X.l t s2 y) t = some { xt with ents := delE s2 xt.ents } := by rw [get_leaL h.srt t hty, if_pos rfl, r.ht]; rfl
    have hgx : get (leaL X.l t s2 y) x = some xx := by rw [get_leaL h.srt x r.xy, if_neg (fun e => r.tx e.symm)]; exact r.hx
    have hns : xx.kind = 1 → ¬ Sub (leaL X.l t s2 y) x t := fun hk hs => r.ns hk (hs.mono (fun a b => ch_leaL))
    have hfr : entL (delE s2 xt.ents) s2 = none := by rw [entL_delE, if_pos rfl]
    by_cases hdt : d = t
    · have hxe : xd = xt := by have h1 := r.hd; rw [hdt, r.ht] at h1; injection h1 with h1; exact h1.symm
      refine ⟨{ xt with ents := delE s2 xt.ents }, { xt with ents := delE s2 xt.ents }, xx, ⟨by rw [hdt]; exact hgt, hgt, hgx, ?_, hfr, r.kt, r.n2, hns⟩, r.kt⟩
      show entL (delE s2 xt.ents) s = some x
      rw [entL_delE, if_neg (hne hdt), ← hxe]; exact r.he
    · have hgd : get (leaL X.l t s2 y) d = some xd := by rw [get_leaL h.srt d hdy, if_neg hdt]; exact r.hd
      exact ⟨xd, { xt with ents := delE s2 xt.ents }, xx, ⟨hgd, hgt, hgx, r.he, hfr, r.kt, r.n2, hns⟩, r.kd⟩
theorem renE_zero {l : List Nd} {d : Int} {s : Tx} {t : Int} {s2 : Tx} (hE : renE l d s t s2 = 0) : unfQ (qOf l) [(d, s), (t, s2)] = 0 ∧ entX l d s ≠ 0 ∧ (entX l d s ≠ entX l t s2 → stkP l (entX l d s) (entX l t s2) t = 0) := by
  unfold renE at hE
  by_cases hu : unfQ (qOf l) [(d, s), (t, s2)] = 0
  · rw [if_neg (fun h => h hu)] at hE
    by_cases h0 : entX l d s = 0
    · rw [if_pos h0] at hE; cases hE
    · rw [if_neg h0] at hE
      refine ⟨hu, h0, fun hxy => ?_⟩
      rw [if_neg hxy] at hE
      exact hE
  · rw [if_pos hu] at hE; exact absurd hE hu
/-- What it comes to. -/
theorem renR_wf {X : Im} (h : WF X) {d : Int} {s : Tx} {t : Int} {s2 : Tx} (hE : renE X.l d s t s2 = 0) : WF { X with l := renR X.l d s t s2 } := by
  obtain ⟨hu, h0, hst⟩ := renE_zero hE
  unfold renR
  by_cases hxy : entX X.l d s = entX X.l t s2
  · rw [if_pos hxy]; exact h
  · rw [if_neg hxy]
    obtain ⟨xd, xt, xx, r⟩ := renF_of h hu h0 hxy (hst hxy)
    obtain ⟨h1, xd1, xt1, xx1, r1, _⟩ := r.way1 h
    exact r1.wf h1
end Go.Proofs.YtcogkhcfpgelhabGreat

namespace Go.Proofs.YtcogkhcfpgelhabGreat
open Go.RowKit
set_option linter.unusedVariables false
set_option maxRecDepth 100000
variable {fb mb : Nat} {ot : Option Nat} {L : Int → Lay} {T : List Ac} {w w' : World} {X : Im}
/-- No directory has too many entries. -/
def Few (X : Im) : Prop := ∀ x ∈ X.l, x.ents.length ≤ 1000000000
def RnO (fb mb : Nat) (ot : Option Nat) (L : Int → Lay) (X : Im) (T : List Ac) (d : Int) (s : Tx) (t : Int) (s2 : Tx) (w : World) (e : Ending) (w' : World) : Prop :=
  (renE X.l d s t s2 ≠ 0 ∧ e = .returned (.int .i64 (renE X.l d s t s2)) ∧ Nw w w') ∨
  (renE X.l d s t s2 = 0 ∧ e = .returned (.int .i64 0) ∧ MutO fb mb ot L (qOf X.l) (hOf { X with l := renR X.l d s t s2 }) (qOf (renR X.l d s t s2)) (renR X.l d s t s2).length (T ++ [⟨9, d, s, entX X.l d s, t, s2, 0, 0⟩]) w w')
theorem few_links (hX : WF X) (hF : Few X) (k : Int) : (lks X.l k : Int) ≤ 1000000000000000 - 2 := by
  have h1 := lks_bound hF k
  have hlen := hX.len
  have hn2 := hX.n2
  have h2 : X.l.length * 1000000000 ≤ 4096 * 1000000000 := Nat.mul_le_mul_right _ (by omega)
  omega
theorem leaQ_sub {q : Int → Option Pn} {d n k : Int} {s : Tx} {pn p : Pn} (hn : q n = some pn) (h : leaQ q d s n pn k = some p) : ∃ p', q k = some p' ∧ p'.kind = p.kind := by
  unfold leaQ at h
  split at h
  · rename_i e
    split at h
    · cases h
    · injection h with h
      exact ⟨pn, by rw [e]; exact hn, by rw [← h]; rfl⟩
  · split at h
    · rename_i e
      cases hq : q d with
      | none => rw [hq] at h; cases h
      | some x => rw [hq] at h; simp only [Option.map_some, Option.some.injEq] at h; exact ⟨x, by rw [e]; exact hq, by rw [← h]; rfl⟩
    · exact ⟨p, h, rfl⟩
/-- The move of Rename, in the image's words. -/
theorem renmove (hX : WF X) (hF : Few X) {d t x y : Int} {s s2 : Tx} {xd xt xx : Nd} (r : RenF X d s t s2 x y xd xt xx) (hs : s.length ≤ 140737488351232) (hs2 : s2.length ≤ 140737488351232) {V : World} (H : FsH fb mb ot L (hOf X) (qOf X.l) X.l.length T V) :
    Calls Tryz.prog 62 #[.pointer (some ⟨fb, 0, none⟩), .agg #[.int .i64 d, .string (mk s)], .agg #[.int .i64 t, .string (mk s2)]] V fun e w' => (∃ r, e = .returned r) ∧ FsH fb mb ot L (hOf { X with l := renL (wayL X.l t s2 y) d s t s2 x }) (qOf (renL (wayL X.l t s2 y) d s t s2 x)) (renL (wayL X.l t s2 y) d s t s2 x).length T w' ∧ Fr (Bk fb mb ot L (qOf X.l)) V w' ∧ ∀ k p, qOf (renL (wayL X.l t s2 y) d s t s2 x) k = some p → ∃ p', qOf X.l k = some p' ∧ p'.kind = p.kind := by
  obtain ⟨hX1, xd1, xt1, xx1, r1, kd1⟩ := r.way1 hX
  obtain ⟨hdm, hdn⟩ := get_some r.hd
  obtain ⟨htm, htn⟩ := get_some r.ht
  obtain ⟨hxm, hxn⟩ := get_some r.hx
  have nd := hX.nums xd hdm
  have nt := hX.nums xt htm
  have nx := hX.nums xx hxm
  have hx2 := hX.x2
  obtain ⟨wy, hwy, hWQ, hWH, hWN⟩ : ∃ wy, WayOk (qOf X.l) (hOf X) t (pnOf X.l xt) s2 wy ∧ wayQ (qOf X.l) t s2 wy = qOf (wayL X.l t s2 y) ∧ wayH (hOf X) wy = hOf { X with l := wayL X.l t s2 y } ∧ wayN X.l.length wy = (wayL X.l t s2 y).length := by
    rcases r.way with ⟨hy, hf⟩ | ⟨hy, xy, hf, hgy, hye, hty, hdy⟩
    · have e : wayL X.l t s2 y = X.l := by unfold wayL; rw [if_pos hy]
      exact ⟨none, hf, by rw [e]; rfl, by rw [e]; rfl, by rw [e]; rfl⟩
    · have e : wayL X.l t s2 y = leaL X.l t s2 y := by unfold wayL; rw [if_neg hy]
      obtain ⟨hym, hyn⟩ := get_some hgy
      have ny := hX.nums xy hym
      have hl1 := hX.lk1 xy hym
      have hl2 := few_links hX hF y
      have hlen := len_leaL hX r.ht hf hgy hty
      have hh := hX.held
      have hb2 := hX.b2
      have hdl := (hX.kinds xy hym).len
      refine ⟨some (y, pnOf X.l xy), ⟨hf, hy, ⟨by omega, by omega⟩, qOf_get hgy, hty, ⟨?_, ?_⟩, ?_, ?_, ?_⟩, ?_, ?_, ?_⟩
      · show 1 ≤ (lks X.l xy.num : Int); omega
      · show (lks X.l xy.num : Int) ≤ _; rw [hyn]; omega
      · show 0 ≤ (heldF X.l : Int); omega
      · show (heldF X.l : Int) ≤ _; omega
      · show xy.data.length ≤ _; omega
      · rw [e]; exact (q_leaL hX r.ht hf hgy hty hye).symm
      · show leaH (hOf X) (pnOf X.l xy) = _
        rw [e]
        have h1 : (leaH (hOf X) (pnOf X.l xy)).held = (heldF (leaL X.l t s2 y) : Int) := hlen.2.symm
        unfold leaH at h1 ⊢
        split at h1
        · rename_i hc
          rw [if_pos hc]
          unfold hOf at h1 ⊢
          simp only at h1 ⊢
          rw [h1]
        · rename_i hc
          rw [if_neg hc]
          unfold hOf at h1 ⊢
          simp only at h1 ⊢
          rw [h1]
      · show leaN X.l.length (pnOf X.l xy) = _
        rw [e]; exact hlen.1.symm
  have hF1 : Few { X with l := wayL X.l t s2 y } := fun z hz => by
    have hz : z ∈ wayL X.l t s2 y := hz
    unfold wayL at hz
    split at hz
    · exact hF z hz
    · have key : ∀ z ∈ rmvE X.l t s2, z.ents.length ≤ 1000000000 := fun z hz => by
        obtain ⟨z', hz', _, _, _, _, _, _, h9⟩ := mem_rmvE hz
        rcases h9 with ⟨_, h9⟩ | ⟨_, h9⟩
        · rw [h9]
          have := hF z' hz'
          have h10 : (delE s2 z'.ents).length ≤ z'.ents.length := List.length_filter_le _ _
          omega
        · rw [h9]; exact hF z' hz'
      unfold leaL at hz
      split at hz
      · exact key z (mem_dropL.1 hz).1
      · exact key z hz
  obtain ⟨htm1, htn1⟩ := get_some r1.ht
  obtain ⟨hxm1, hxn1⟩ := get_some r1.hx
  have hlk1 := few_links hX1 hF1 x
  have hl1 := hX1.lk1 xx1 hxm1
  have hdx := wf_noself hX1 r1.hd r1.he
  have htx : t ≠ x := r.tx
  have hq1x : wayQ (qOf X.l) t s2 wy x = some (pnOf (wayL X.l t s2 y) xx1) := by rw [hWQ]; exact qOf_get r1.hx
  have hq1t : wayQ (qOf X.l) t s2 wy t = some (pnOf (wayL X.l t s2 y) xt1) := by rw [hWQ]; exact qOf_get r1.ht
  have hq1d : wayQ (qOf X.l) t s2 wy d = some (pnOf (wayL X.l t s2 y) xd1) := by rw [hWQ]; exact qOf_get r1.hd
  have hex : entQ (wayQ (qOf X.l) t s2 wy) t s2 x x = some (named1 (pnOf (wayL X.l t s2 y) xx1) t) := by unfold entQ; rw [if_pos rfl, hq1x]; rfl
  have hlks : (named1 (pnOf (wayL X.l t s2 y) xx1) t).links = (lks (wayL X.l t s2 y) x : Int) + 1 := by unfold named1 pnOf; simp only [hxn1]
  have hh1 := hX1.held
  have hb1 := hX1.b2
  have hdl1 := (hX1.kinds xx1 hxm1).len
  rw [hxn1] at hl1
  have hne1 := hF1 xt1 htm1
  obtain ⟨pd2, hd2, hkd2, hfd2⟩ : ∃ pd2, entQ (wayQ (qOf X.l) t s2 wy) t s2 x d = some pd2 ∧ pd2.kind = 1 ∧ pd2.ents s = some x := by
    unfold entQ
    rw [if_neg hdx]
    by_cases hdt : d = t
    · rw [if_pos hdt, hq1t]
      have hxe : xd1 = xt1 := by have h1 := r1.hd; rw [hdt, r1.ht] at h1; injection h1 with h1; exact h1.symm
      refine ⟨putEnt (pnOf (wayL X.l t s2 y) xt1) s2 x, rfl, r1.kt, ?_⟩
      show (if s = s2 then some x else entL xt1.ents s) = some x
      by_cases hss : s = s2
      · rw [if_pos hss]
      · rw [if_neg hss, ← hxe]; exact r1.he
    · rw [if_neg hdt]
      exact ⟨_, hq1d, kd1, r1.he⟩
  have hM := move_fr H d t x ⟨by omega, by omega⟩ ⟨by omega, by omega⟩ ⟨by omega, by omega⟩ s s2 hs hs2 (qOf_get r.hd) r.kd r.he (qOf_get r.ht) r.kt wy hwy hq1t r1.kt r1.hf (by show xt1.ents.length ≤ _; omega) hq1x htx ⟨by show 0 ≤ (lks _ xx1.num : Int); omega, by show (lks _ xx1.num : Int) ≤ _; rw [hxn1]; show (lks (wayL X.l t s2 y) x : Int) ≤ _; have : (lks (wayL X.l t s2 y) x : Int) ≤ 1000000000000000 - 2 := hlk1; omega⟩ hd2 hkd2 hfd2 hex hdx ⟨by rw [hlks]; omega, by rw [hlks]; have : (lks (wayL X.l t s2 y) x : Int) ≤ 1000000000000000 - 2 := hlk1; omega⟩ ⟨by rw [hWH]; show 0 ≤ (heldF _ : Int); omega, by rw [hWH]; show (heldF (wayL X.l t s2 y) : Int) ≤ _; have : (heldF (wayL X.l t s2 y) : Int) ≤ X.bytes := hh1; have : X.bytes ≤ 4194304 := hb1; omega, by show xx1.data.length ≤ _; omega⟩ (qOf_get r.hx)
  refine Calls.mono hM ?_
  rintro e w' ⟨hr, hFs, hFr⟩
  have hnl : ¬ (named1 (pnOf (wayL X.l t s2 y) xx1) t).links = 1 := by rw [hlks]; have : 1 ≤ lks (wayL X.l t s2 y) x := hl1; omega
  have hqe := Ren.q hX1 r1 (fun e => htx e.symm)
  have hrl := ren_len (wayL X.l t s2 y) d s t s2 x
  have e1 : leaH (wayH (hOf X) wy) (named1 (pnOf (wayL X.l t s2 y) xx1) t) = hOf { X with l := renL (wayL X.l t s2 y) d s t s2 x } := by
    unfold leaH
    rw [if_neg hnl, hWH]
    unfold hOf
    simp only
    rw [hrl.2]
  have e2 : leaN (wayN X.l.length wy) (named1 (pnOf (wayL X.l t s2 y) xx1) t) = (renL (wayL X.l t s2 y) d s t s2 x).length := by
    unfold leaN
    rw [if_neg hnl, hWN, hrl.1]
  have hsub : ∀ k p, qOf (renL (wayL X.l t s2 y) d s t s2 x) k = some p → ∃ p', qOf X.l k = some p' ∧ p'.kind = p.kind := fun k p hp => by
    rw [hqe] at hp
    have hp : leaQ (entQ (wayQ (qOf X.l) t s2 wy) t s2 x) d s x (named1 (pnOf (wayL X.l t s2 y) xx1) t) k = some p := by rw [hWQ]; exact hp
    obtain ⟨p1, h1, k1⟩ := leaQ_sub hex hp
    obtain ⟨p2, h2, k2⟩ := entQ_some h1
    cases hw : wy with
    | none => rw [hw] at h2; exact ⟨p2, h2, k2.trans k1⟩
    | some z =>
      obtain ⟨y', py⟩ := z
      rw [hw] at h2 hwy
      obtain ⟨p3, h3, k3⟩ := leaQ_sub hwy.2.2.2.1 h2
      exact ⟨p3, h3, (k3.trans k2).trans k1⟩
  rw [e1, e2, hWQ, ← hqe] at hFs
  exact ⟨hr, hFs, hFr, hsub⟩
end Go.Proofs.YtcogkhcfpgelhabGreat

namespace Go.Proofs.YtcogkhcfpgelhabGreat
open Go.RowKit
set_option linter.unusedVariables false
set_option maxRecDepth 100000
variable {fb mb : Nat} {ot : Option Nat} {L : Int → Lay} {T : List Ac} {w w' : World} {X : Im}
set_option maxHeartbeats 8000000 in
theorem rename_any (hX : WF X) (hF : Few X) (H : FsH fb mb ot L (hOf X) (qOf X.l) X.l.length T w) (hT : T.length ≤ 2000000000000) (d t : Int) (hd64 : I64 d) (ht64 : I64 t) (s s2 : Tx) (hs : s.length ≤ 140737488351232) (hs2 : s2.length ≤ 140737488351232) :
    Calls Tryz.prog 36 #[.pointer (some ⟨fb, 0, none⟩), .int .i64 d, .string (mk s), .int .i64 t, .string (mk s2)] w (RnO fb mb ot L X T d s t s2 w) := by
  obtain ⟨P, hP⟩ : ∃ P : Ending → World → Prop, P = RnO fb mb ot L X T d s t s2 w := ⟨_, rfl⟩
  rw [← hP]
  obtain ⟨V2, hV2⟩ : ∃ V2, (w.alloc (.cells #[.int .i64 d, .string (mk s)] 110)).alloc (.cells #[.int .i64 t, .string (mk s2)] 110) = V2 := ⟨_, rfl⟩
  have hN2 : Nw w V2 := by rw [← hV2]; exact ((Fr.refl _ _).alloc _).alloc _
  have hs1 : (w.alloc (.cells #[.int .i64 d, .string (mk s)] 110)).heap.size = w.heap.size + 1 := by simp
  have HB : Hid (∀ V, Nw V2 V → V.cell? ⟨w.heap.size, 0, none⟩ = some (.int .i64 d) ∧ V.cell? ⟨w.heap.size, 1, none⟩ = some (.string (mk s)) ∧ V.cell? ⟨w.heap.size + 1, 0, none⟩ = some (.int .i64 t) ∧ V.cell? ⟨w.heap.size + 1, 1, none⟩ = some (.string (mk s2))) := fun V hV => by
    have hn : Nw (w.alloc (.cells #[.int .i64 d, .string (mk s)] 110)) V2 := by rw [← hV2]; exact (Fr.refl _ _).alloc _
    have a1 : ∀ j v, (#[.int .i64 d, .string (mk s)] : Array Value)[j]? = some v → V2.cell? ⟨w.heap.size, j, none⟩ = some v := fun j v hv => hn.cell (rc (nh w _) j v hv).1
    have a2 : ∀ j v, (#[.int .i64 t, .string (mk s2)] : Array Value)[j]? = some v → V2.cell? ⟨w.heap.size + 1, j, none⟩ = some v := fun j v hv => by
      rw [← hV2, ← hs1]; exact (rc (nh _ _) j v hv).1
    exact ⟨hV.cell (a1 0 _ rfl), hV.cell (a1 1 _ rfl), hV.cell (a2 0 _ rfl), hV.cell (a2 1 _ rfl)⟩
  have HU : Hid (Calls Tryz.prog 54 #[.pointer (some ⟨fb, 0, none⟩), .slice (some ⟨V2.heap.size, 0, none⟩) 2 2] (V2.alloc (.cells #[.int .i64 d, .string (mk s), .int .i64 t, .string (mk s2)] 110)) fun e w' => e = .returned (.int .i64 (unfQ (qOf X.l) [(d, s), (t, s2)])) ∧ Hid (Nw V2 w')) := by
    have hNa : Nw V2 (V2.alloc (.cells #[.int .i64 d, .string (mk s), .int .i64 t, .string (mk s2)] 110)) := (Fr.refl _ _).alloc _
    have hR : RdP V2.heap.size 0 [(d, s), (t, s2)] (V2.alloc (.cells #[.int .i64 d, .string (mk s), .int .i64 t, .string (mk s2)] 110)) := fun i hi => by
      have : i = 0 ∨ i = 1 := by simp at hi; omega
      rcases this with rfl | rfl
      · exact ⟨(rc (nh V2 _) 0 _ rfl).1, (rc (nh V2 _) 1 _ rfl).1⟩
      · exact ⟨(rc (nh V2 _) 2 _ rfl).1, (rc (nh V2 _) 3 _ rfl).1⟩
    refine Calls.mono (unfit_any (H.nw (hN2.trans hNa)) V2.heap.size 0 [(d, s), (t, s2)] hR (fun z hz => ?_) 2 (by simp) (by omega)) (fun e w' hh => ⟨hh.1, hNa.trans hh.2⟩)
    simp only [List.mem_cons, List.mem_nil_iff, or_false] at hz
    rcases hz with rfl | rfl
    · exact ⟨hd64, hs⟩
    · exact ⟨ht64, hs2⟩
  obtain ⟨c0, c1, c2, c3⟩ := HB.out V2 (Fr.refl _ _)
  have HV := tHid hV2
  have HH := tHid H
  have HXX := tHid hX
  have HFF := tHid hF
  have HPE := tHid hP
  have HTT := tHid hT
  have HN2 := tHid hN2
  have HSS := tHid (And.intro hs hs2)
  have H64 := tHid (And.intro hd64 ht64)
  clear H hX hF hP hT hN2 hs1 hV2 hs hs2 hd64 ht64
  by_cases hu : unfQ (qOf X.l) [(d, s), (t, s2)] = 0
  rotate_left
  · have HL : Hid (∀ W, Nw V2 W → P (.returned (.int .i64 (unfQ (qOf X.l) [(d, s), (t, s2)]))) W) := fun W hW => by
      rw [HPE.out]
      have e : renE X.l d s t s2 = unfQ (qOf X.l) [(d, s), (t, s2)] := by unfold renE; rw [if_pos hu]
      exact .inl ⟨by rw [e]; exact hu, by rw [e], HN2.out.trans hW⟩
    have hub : (unfQ (qOf X.l) [(d, s), (t, s2)] != 0) = true := by simp [hu]
    generalize unfQ (qOf X.l) [(d, s), (t, s2)] = U at *
    clear HH HXX HFF HPE HTT HSS H64 hu HB
    go_enter Tryz.func36, Tryz.ntmps36
    go_upto_region 2 with fail
    rw [HV.out]
    clear HV
    go_wp2_with (first | (go_at_call 54; with_reducible refine HU.out.mono ?_; rintro e w3 ⟨rfl, H3⟩))
    exact HL.out _ H3.out
  obtain ⟨⟨pd, hpd, hkd⟩, ⟨pt, hpt, hkt⟩, hn1, hn2⟩ := unfQ_two hu
  obtain ⟨xd, hgd, hdm, hdn, rfl⟩ := qOf_some hpd
  obtain ⟨xt, hgt, htm, htn, rfl⟩ := qOf_some hpt
  have ed : entX X.l d s = (entL xd.ents s).getD 0 := by unfold entX; rw [hgd]; rfl
  have et : entX X.l t s2 = (entL xt.ents s2).getD 0 := by unfold entX; rw [hgt]; rfl
  have HA1 : Hid (∀ V, Hid (Nw V2 V) → Calls Tryz.prog 55 #[.pointer (some ⟨fb, 0, none⟩), .agg #[.int .i64 d, .string (mk s)]] V fun e w' => e = .returned (.int .i64 (entX X.l d s)) ∧ Hid (Nw V2 w')) := fun V hV => Calls.mono (at_any (HH.out.nw (HN2.out.trans hV.out)) d H64.out.1 s HSS.out.1 hpd hkd) (fun e w' hh => ⟨by rw [ed]; exact hh.1, hV.out.trans hh.2⟩)
  have HA2 : Hid (∀ V, Hid (Nw V2 V) → Calls Tryz.prog 55 #[.pointer (some ⟨fb, 0, none⟩), .agg #[.int .i64 t, .string (mk s2)]] V fun e w' => e = .returned (.int .i64 (entX X.l t s2)) ∧ Hid (Nw V2 w')) := fun V hV => Calls.mono (at_any (HH.out.nw (HN2.out.trans hV.out)) t H64.out.2 s2 HSS.out.2 hpt hkt) (fun e w' hh => ⟨by rw [et]; exact hh.1, hV.out.trans hh.2⟩)
  have hbnd : ∀ (z : Nd) (d : Int) (s : Tx), get X.l d = some z → I64 ((entL z.ents s).getD 0) ∧ ((entL z.ents s).getD 0 ≠ 0 → ∃ p, qOf X.l ((entL z.ents s).getD 0) = some p) := fun z d s hz => by
    cases hc : entL z.ents s with
    | none => exact ⟨⟨by simp, by simp⟩, fun h => absurd rfl h⟩
    | some n =>
      obtain ⟨xn, hg, _, h1, h2, _⟩ := wf_entOk HXX.out hz hc
      have := HXX.out.x2
      exact ⟨⟨by show -9223372036854775808 ≤ n; omega, by show n < 9223372036854775808; omega⟩, fun _ => ⟨_, qOf_get hg⟩⟩
  obtain ⟨hx64, _⟩ := hbnd xd d s hgd
  obtain ⟨hy64, hyq⟩ := hbnd xt t s2 hgt
  rw [← ed] at hx64
  rw [← et] at hy64 hyq
  obtain ⟨rk, hrk, hrs⟩ := wf_rkd HXX.out
  have hstk : stkE (qOf X.l) (rk t) (entX X.l d s) (entX X.l t s2) t = stkP X.l (entX X.l d s) (entX X.l t s2) t := by
    have hi := hrs (entX X.l d s) t xt htm htn hkt (rk t) (Nat.le_refl _)
    unfold stkE stkP
    by_cases a1 : entX X.l t s2 ≠ 0 ∧ (isDirQ (qOf X.l) (entX X.l d s) != isDirQ (qOf X.l) (entX X.l t s2)) = true
    · rw [if_pos a1, if_pos a1]
    · rw [if_neg a1, if_neg a1]
      by_cases a2 : isDirQ (qOf X.l) (entX X.l d s) = true ∧ Sub X.l (entX X.l d s) t
      · rw [if_pos ⟨a2.1, hi.2 a2.2⟩, if_pos a2]
      · rw [if_neg (fun h => a2 ⟨h.1, hi.1 h.2⟩), if_neg a2]
  have HST : Hid (∀ V, Hid (Nw V2 V) → Calls Tryz.prog 61 #[.pointer (some ⟨fb, 0, none⟩), .int .i64 (entX X.l d s), .int .i64 (entX X.l t s2), .int .i64 t] V fun e w' => e = .returned (.int .i64 (stkP X.l (entX X.l d s) (entX X.l t s2) t)) ∧ Hid (Nw V2 w')) := fun V hV => Calls.mono (stuck_any (HH.out.nw (HN2.out.trans hV.out)) hrk _ _ t hx64 hy64 H64.out.2 hpt hkt hyq) (fun e w' hh => ⟨by rw [hh.1, hstk], by rw [← hh.2]; exact hV⟩)
  have HDX : Hid (entX X.l d s = entX X.l t s2 → entX X.l d s ≠ 0 → ∀ V, Hid (Nw V2 V) → Calls Tryz.prog 53 #[.pointer (some ⟨fb, 0, none⟩), .agg #[.int .i64 9, .int .i64 d, .string (mk s), .int .i64 (entX X.l d s), .int .i64 t, .string (mk s2), .int .i64 0, .int .i64 0]] V fun e w' => (∃ r, e = .returned r) ∧ Hid (P (.returned (.int .i64 0)) w')) := fun hxy h0 V hV => by
    refine Calls.mono (did_any (HH.out.nw (HN2.out.trans hV.out)) HTT.out ⟨9, d, s, entX X.l d s, t, s2, 0, 0⟩) ?_
    rintro e w' ⟨hr, ot', g1, g2, g3⟩
    refine ⟨hr, ?_⟩
    show P _ _
    rw [HPE.out]
    have hE : renE X.l d s t s2 = 0 := by unfold renE; rw [if_neg (fun h => h hu), if_neg h0, if_pos hxy]
    have hR : renR X.l d s t s2 = X.l := by unfold renR; rw [if_pos hxy]
    refine .inr ⟨hE, rfl, ?_⟩
    rw [hR]
    exact MutO.of (fun k p hp => ⟨p, hp, rfl⟩) (HN2.out.trans hV.out) (fun k h => h.elim) g1 g2 g3
  have HMV : Hid (entX X.l d s ≠ entX X.l t s2 → entX X.l d s ≠ 0 → stkP X.l (entX X.l d s) (entX X.l t s2) t = 0 → ∀ V, Hid (Nw V2 V) → Calls Tryz.prog 62 #[.pointer (some ⟨fb, 0, none⟩), .agg #[.int .i64 d, .string (mk s)], .agg #[.int .i64 t, .string (mk s2)]] V fun e w' => (∃ r, e = .returned r) ∧ Hid (Calls Tryz.prog 53 #[.pointer (some ⟨fb, 0, none⟩), .agg #[.int .i64 9, .int .i64 d, .string (mk s), .int .i64 (entX X.l d s), .int .i64 t, .string (mk s2), .int .i64 0, .int .i64 0]] w' fun e w'' => (∃ r, e = .returned r) ∧ Hid (P (.returned (.int .i64 0)) w''))) := fun hxy h0 hst V hV => by
    obtain ⟨xd2, xt2, xx2, r⟩ := renF_of HXX.out hu h0 hxy hst
    refine Calls.mono (renmove HXX.out HFF.out r HSS.out.1 HSS.out.2 (HH.out.nw (HN2.out.trans hV.out))) ?_
    rintro e w7 ⟨hr, g1, g2, g3⟩
    refine ⟨hr, ?_⟩
    refine Calls.mono (did_any g1 HTT.out ⟨9, d, s, entX X.l d s, t, s2, 0, 0⟩) ?_
    rintro e w8 ⟨hr8, ot', k1, k2, k3⟩
    refine ⟨hr8, ?_⟩
    show P _ _
    rw [HPE.out]
    have hE : renE X.l d s t s2 = 0 := by unfold renE; rw [if_neg (fun h => h hu), if_neg h0, if_neg hxy]; exact hst
    have hR : renR X.l d s t s2 = renL (wayL X.l t s2 (entX X.l t s2)) d s t s2 (entX X.l d s) := by unfold renR; rw [if_neg hxy]
    refine .inr ⟨hE, rfl, ?_⟩
    rw [hR]
    exact MutO.of g3 ((HN2.out.trans hV.out).any.trans g2) (fun k h => .inl h) k1 k2 k3
  have HER : Hid (∀ W z, Nw V2 W → z ≠ 0 → renE X.l d s t s2 = z → P (.returned (.int .i64 z)) W) := fun W z hW hz he => by
    rw [HPE.out]
    exact .inl ⟨by rw [he]; exact hz, by rw [he], HN2.out.trans hW⟩
  have HRE : Hid (renE X.l d s t s2 = if entX X.l d s = 0 then 103 else if entX X.l d s = entX X.l t s2 then 0 else stkP X.l (entX X.l d s) (entX X.l t s2) t) := by
    show renE X.l d s t s2 = _
    unfold renE
    rw [if_neg (fun h => h hu)]
  rw [hu] at HU
  clear HH HXX HFF HPE HTT HSS H64 hu hpd hkd hpt hkt hn1 hn2 hgd hdm hdn hgt htm htn ed et hbnd hx64 hy64 hyq hrk hrs hstk
  generalize stkP X.l (entX X.l d s) (entX X.l t s2) t = ST at *
  generalize renE X.l d s t s2 = RE at *
  generalize entX X.l d s = x at *
  generalize entX X.l t s2 = y at *
  generalize mk s = ss at *
  generalize mk s2 = ss2 at *
  go_enter Tryz.func36, Tryz.ntmps36
  go_upto_region 2 with fail
  rw [HV.out]
  clear HV
  go_upto_region 5 with (first | (go_at_call 54; with_reducible refine HU.out.mono ?_; rintro e w3 ⟨rfl, H3⟩))
  clear HU c0 c1 c2 c3
  go_cut [14, 15] (fun a b wx => a = .int .i64 x ∧ b = .int .i64 y ∧ Hid (Nw V2 wx))
  case first =>
    have HSA := tHid (HB.out w3 H3.out)
    have HSD := tHid (HB.out w3.drew H3.out.drew)
    have HD3 : Hid (Nw V2 w3.drew) := H3.out.drew
    clear HST HDX HMV HER HRE
    go_region_held3 (fun U => U.cell? ⟨w.heap.size, 0, none⟩ = some (.int .i64 d) ∧ U.cell? ⟨w.heap.size, 1, none⟩ = some (.string ss) ∧ U.cell? ⟨w.heap.size + 1, 0, none⟩ = some (.int .i64 t) ∧ U.cell? ⟨w.heap.size + 1, 1, none⟩ = some (.string ss2))
      (first | exact HSA.out | exact HSD.out | exact HB.out _ H6.out | exact HB.out _ H5.out)
      (first | (go_at_call 55; with_reducible refine (HA1.out _ HD3).mono ?_; rintro e w5 ⟨rfl, H5⟩) | (go_at_call 55; with_reducible refine (HA2.out _ H5).mono ?_; rintro e w6 ⟨rfl, H6⟩))
    all_goals go_wp2_with fail
    all_goals go_meet
    all_goals exact ⟨rfl, rfl, H6⟩
  case rest =>
  obtain ⟨rfl, rfl, H6⟩ := hcut
  obtain ⟨c0, c1, c2, c3⟩ := HB.out wc H6.out
  by_cases hx0 : x = 0
  · have HL := tHid (HER.out wc 103 H6.out (by decide) (by rw [HRE.out, if_pos hx0]))
    have hxb : (x == 0) = true := by simp [hx0]
    clear HER HRE HST HDX HMV HA1 HA2 hx0
    go_wp2_with fail
    exact HL.out
  · have hxb : (x == 0) = false := by simp [hx0]
    have hre := HRE.out
    rw [if_neg hx0] at hre
    by_cases hxy : x = y
    · have CD := tHid (HDX.out hxy hx0 wc H6)
      have hxyb : (x != y) = false := by simp [hxy]
      clear HER HRE HST HDX HMV HA1 HA2 hre hx0 hxy HB
      go_wp2_with (first | (go_at_call 53; with_reducible refine CD.out.mono ?_; rintro e w8 ⟨⟨r8, rfl⟩, H8⟩))
      exact H8.out
    · rw [if_neg hxy] at hre
      have hxyb : (x != y) = true := by simp [hxy]
      have CS := tHid (HST.out wc H6)
      by_cases hst : ST = 0
      · subst hst
        have HM7 := tHid (HMV.out hxy hx0 rfl)
        clear HER HRE HST HDX HMV HA1 HA2 hre hx0 hxy
        go_upto_region 12 with (first | (go_at_call 61; with_reducible refine CS.out.mono ?_; rintro e w7 ⟨rfl, H7⟩))
        obtain ⟨d0, d1, d2, d3⟩ := HB.out w7 H7.out
        have CM := tHid (HM7.out w7 H7)
        clear c0 c1 c2 c3 HM7 CS HB
        go_wp2_with (first | (go_at_call 62; with_reducible refine CM.out.mono ?_; rintro e w8 ⟨⟨r8, rfl⟩, H8⟩) | (go_at_call 53; with_reducible refine H8.out.mono ?_; rintro e w9 ⟨⟨r9, rfl⟩, H9⟩))
        exact H9.out
      · have HL : Hid (∀ W, Hid (Nw V2 W) → P (.returned (.int .i64 ST)) W) := fun W hW => HER.out W ST hW.out hst hre
        have hsb : (ST != 0) = true := by simp [hst]
        clear HER HRE HST HDX HMV HA1 HA2 hre hx0 hxy hst HB
        go_wp2_with (first | (go_at_call 61; with_reducible refine CS.out.mono ?_; rintro e w7 ⟨rfl, H7⟩))
        exact HL.out _ H7
end Go.Proofs.YtcogkhcfpgelhabGreat

namespace Go.Proofs.YtcogkhcfpgelhabGreat
open Go.RowKit
set_option linter.unusedVariables false
set_option maxRecDepth 100000
variable {fb mb : Nat} {ot : Option Nat} {L : Int → Lay} {T : List Ac} {w w' : World} {X : Im}
/-! ### Each call, in the image's words -/
structure Rs where
  n : Int
  e : Int
  X : Im
  acts : List Ac
def totE (l : List Nd) : Nat := sumF (fun x => x.ents.length) l
theorem few_of (h : totE X.l ≤ 1000000000) : Few X := fun x hx => Nat.le_trans (sumF_mem (fun x => x.ents.length) hx) h
def addR (X : Im) (op d : Int) (s : Tx) (kd : Int) (mt : Mt) (tgt : Tx) : Rs := if addE (hOf X) (qOf X.l) X.l.length d s kd mt tgt = 0 then ⟨X.next, 0, { X with next := X.next + 1, l := putE (X.l ++ [⟨X.next, kd, mt, [], tgt, []⟩]) d s X.next }, [⟨op, d, s, X.next, 0, [], 0, 0⟩]⟩ else ⟨0, addE (hOf X) (qOf X.l) X.l.length d s kd mt tgt, X, []⟩
def lnkR (X : Im) (d : Int) (s : Tx) (n : Int) : Rs := if lnkE (qOf X.l) d s n = 0 then ⟨0, 0, { X with l := putE X.l d s n }, [⟨4, d, s, n, 0, [], 0, 0⟩]⟩ else ⟨0, lnkE (qOf X.l) d s n, X, []⟩
def remR (X : Im) (op d : Int) (s : Tx) (b : Bool) : Rs := if remE (qOf X.l) d s b = 0 then ⟨0, 0, { X with l := leaL X.l d s (fndQ (qOf X.l) d s).1 }, [⟨op, d, s, (fndQ (qOf X.l) d s).1, 0, [], 0, 0⟩]⟩ else ⟨0, remE (qOf X.l) d s b, X, []⟩
def datR (l : List Nd) (n : Int) (f : List By → List By) : List Nd := updL l n (fun x => { x with data := f x.data })
def rszR (X : Im) (n size : Int) : Rs := if rszE (hOf X) (qOf X.l) n size = 0 then ⟨0, 0, { X with l := datR X.l n (fun l => rszD l size.toNat) }, [⟨6, 0, [], n, 0, [], 0, size⟩]⟩ else ⟨0, rszE (hOf X) (qOf X.l) n size, X, []⟩
def wrR (X : Im) (n pl : Int) (b : List By) : Rs := if wrE (hOf X) (qOf X.l) n pl b = 0 then ⟨0, 0, { X with l := datR X.l n (fun l => wrD l pl.toNat b) }, [⟨5, 0, [], n, 0, [], pl, b.length⟩]⟩ else ⟨0, wrE (hOf X) (qOf X.l) n pl b, X, []⟩
def chR (X : Im) (n : Int) (m : Mt) : Rs := if chE (qOf X.l) n m = 0 then ⟨0, 0, { X with l := updL X.l n (fun x => { x with mt := m }) }, [⟨10, 0, [], n, 0, [], 0, 0⟩]⟩ else ⟨0, chE (qOf X.l) n m, X, []⟩
noncomputable def rnR (X : Im) (d : Int) (s : Tx) (t : Int) (s2 : Tx) : Rs := if renE X.l d s t s2 = 0 then ⟨0, 0, { X with l := renR X.l d s t s2 }, [⟨9, d, s, entX X.l d s, t, s2, 0, 0⟩]⟩ else ⟨0, renE X.l d s t s2, X, []⟩
/-- What a call has done. -/
def OpO (fb mb : Nat) (ot : Option Nat) (L : Int → Lay) (X : Im) (T : List Ac) (R : Rs) (w w' : World) : Prop := MutO fb mb ot L (qOf X.l) (hOf R.X) (qOf R.X.l) R.X.l.length (T ++ R.acts) w w'
theorem opo_nw {n e : Int} (H : FsH fb mb ot L (hOf X) (qOf X.l) X.l.length T w) (f : Nw w w') : OpO fb mb ot L X T ⟨n, e, X, []⟩ w w' := by
  show MutO _ _ _ _ _ _ _ _ (T ++ []) _ _
  rw [List.append_nil]
  exact ⟨ot, L, H.nw f, f.any, fun k hk => .inl hk⟩
/-- What the calls ask for. -/
structure Ask0 (X : Im) : Prop where
  wf : WF X
  few : Few X
theorem wf_zero (hX : WF X) (d : Int) (s : Tx) : ∀ p n, qOf X.l d = some p → p.ents s = some n → n ≠ 0 := fun p n hp he => by
  obtain ⟨x, hg, _, _, rfl⟩ := qOf_some hp
  obtain ⟨_, _, _, h1, _⟩ := wf_entOk hX hg he
  omega
theorem wf_ne (hF : Few X) (d : Int) : ∀ p, qOf X.l d = some p → p.ne ≤ 1000000000000000 := fun p hp => by
  obtain ⟨x, hg, hm, _, rfl⟩ := qOf_some hp
  have := hF x hm
  show x.ents.length ≤ _
  omega
theorem wf_links (hX : WF X) (hF : Few X) (n : Int) : ∀ p, qOf X.l n = some p → 0 ≤ p.links ∧ p.links ≤ 1000000000000000 := fun p hp => by
  obtain ⟨x, hg, hm, _, rfl⟩ := qOf_some hp
  have := few_links hX hF x.num
  exact ⟨by show 0 ≤ (lks X.l x.num : Int); omega, by show (lks X.l x.num : Int) ≤ _; omega⟩
theorem wf_entOk' (hX : WF X) (hF : Few X) (d : Int) (s : Tx) : EntOk (qOf X.l) d s := fun p n hp he => by
  obtain ⟨x, hg, hm, _, rfl⟩ := qOf_some hp
  obtain ⟨xn, hgn, _, h1, h2, h3, _⟩ := wf_entOk hX hg he
  obtain ⟨hnm, hnn⟩ := get_some hgn
  have := hX.x2
  have hl := wf_links hX hF n _ (qOf_get hgn)
  have hl1 := hX.lk1 xn hnm
  have hd := (hX.kinds xn hnm).len
  exact ⟨by omega, ⟨by omega, by omega⟩, fun e => h3 e.symm, _, qOf_get hgn, by show 1 ≤ (lks X.l xn.num : Int); omega, hl.2, by show xn.data.length ≤ _; omega⟩
theorem wf_data (hX : WF X) (n : Int) : ∀ p, qOf X.l n = some p → p.data.length ≤ 4194304 := fun p hp => by
  obtain ⟨x, hg, hm, _, rfl⟩ := qOf_some hp
  exact (hX.kinds x hm).len
theorem wf_held (hX : WF X) : 0 ≤ (hOf X).held ∧ (hOf X).held ≤ 4194304 ∧ 0 ≤ (hOf X).bytes ∧ (hOf X).bytes ≤ 4194304 := by
  have h1 := hX.held
  have h2 := hX.b2
  have h3 := hX.b1
  show 0 ≤ (heldF X.l : Int) ∧ (heldF X.l : Int) ≤ 4194304 ∧ 0 ≤ X.bytes ∧ X.bytes ≤ 4194304
  omega
theorem wf_cnt (hX : WF X) : X.l.length ≤ 4096 := by have := hX.len; have := hX.n2; omega
/-! ### What a new inode may be -/
theorem addE_zero {d : Int} {s : Tx} {kd : Int} {mt : Mt} {tgt : Tx} (h : addE (hOf X) (qOf X.l) X.l.length d s kd mt tgt = 0) : ∃ xd, get X.l d = some xd ∧ xd.kind = 1 ∧ nmOk s = true ∧ entL xd.ents s = none ∧ (kd = 3 → tgOk tgt = true) ∧ mtOk mt = true ∧ (X.l.length : Int) < X.nodes ∧ X.next < 1099511627776 := by
  unfold addE at h
  by_cases hu : unfQ (qOf X.l) [(d, s)] = 0
  · rw [if_neg (fun h => h hu)] at h
    obtain ⟨pd, hpd, hk, hn⟩ := unfQ_one hu
    obtain ⟨x, hg, _, _, rfl⟩ := qOf_some hpd
    split at h
    · cases h
    · rename_i h1
      split at h
      · cases h
      · rename_i h2
        split at h
        · cases h
        · rename_i h3
          split at h
          · cases h
          · rename_i h4
            refine ⟨x, hg, hk, hn, ?_, fun e => ?_, ?_, ?_, ?_⟩
            · rw [qOf_get hg] at h3
              simp only [Option.bind_some] at h3
              cases hc : entL x.ents s with
              | none => rfl
              | some z => exact absurd (by show ((pnOf X.l x).ents s).isSome = true; show (entL x.ents s).isSome = true; rw [hc]; rfl) h3
            · cases ht : tgOk tgt with
              | true => rfl
              | false => exact absurd ⟨e, ht⟩ h1
            · cases hm : mtOk mt with
              | true => rfl
              | false => exact absurd hm h2
            · have h4 : ¬ ((X.l.length : Int) ≥ X.nodes ∨ X.next ≥ 1099511627776) := h4
              omega
            · have h4 : ¬ ((X.l.length : Int) ≥ X.nodes ∨ X.next ≥ 1099511627776) := h4
              omega
  · rw [if_pos hu] at h; exact absurd h hu
theorem held_add {X : Im} (d : Int) (s : Tx) (kd : Int) (mt : Mt) (tgt : Tx) : heldF (putE (X.l ++ [⟨X.next, kd, mt, [], tgt, []⟩]) d s X.next) = heldF X.l := by
  have e : heldF (putE (X.l ++ [⟨X.next, kd, mt, [], tgt, []⟩]) d s X.next) = heldF (X.l ++ [⟨X.next, kd, mt, [], tgt, []⟩]) := held_updL d (f := fun x => { x with ents := insE s X.next x.ents }) (fun _ => rfl)
  rw [e, heldF_sum, heldF_sum, sumF_append]
  simp [sumF]
theorem tot_putE {l : List Nd} (hs : Srt l) {d n : Int} {x : Nd} (hd : get l d = some x) (s : Tx) : totE (putE l d s n) = totE l + 1 := by
  have := sumF_updL (fun x => x.ents.length) hs hd (fun x => { x with ents := insE s n x.ents })
  simp only [insE_length] at this
  unfold totE putE
  omega
theorem tot_rmvE (l : List Nd) (d : Int) (s : Tx) : totE (rmvE l d s) ≤ totE l := by
  induction l with
  | nil => exact Nat.le_refl _
  | cons x r ih =>
    have e1 : totE (rmvE (x :: r) d s) = (if x.num = d then { x with ents := delE s x.ents } else x : Nd).ents.length + totE (rmvE r d s) := by unfold totE sumF rmvE updL; simp only [List.map_cons, List.sum_cons]
    have e2 : totE (x :: r) = x.ents.length + totE r := by unfold totE sumF; simp only [List.map_cons, List.sum_cons]
    have : (if x.num = d then { x with ents := delE s x.ents } else x : Nd).ents.length ≤ x.ents.length := by
      split
      · exact List.length_filter_le _ _
      · exact Nat.le_refl _
    omega
theorem tot_dropL (l : List Nd) (n : Int) : totE (dropL l n) ≤ totE l := by
  unfold totE dropL sumF
  induction l with
  | nil => simp
  | cons x r ih =>
    rw [List.filter_cons]
    split
    · simp only [List.map_cons, List.sum_cons]; omega
    · simp only [List.map_cons, List.sum_cons]; omega
theorem tot_leaL (l : List Nd) (d : Int) (s : Tx) (n : Int) : totE (leaL l d s n) ≤ totE l := by
  unfold leaL
  split
  · exact Nat.le_trans (tot_dropL _ _) (tot_rmvE l d s)
  · exact tot_rmvE l d s
theorem tot_same {l : List Nd} (n : Int) {f : Nd → Nd} (hf : ∀ x, (f x).ents = x.ents) : totE (updL l n f) = totE l := by
  unfold totE updL sumF
  rw [List.map_map]
  congr 1
  apply List.map_congr_left
  intro x _
  simp only [Function.comp]
  split
  · rw [hf]
  · rfl
theorem tot_app (l : List Nd) (y : Nd) (hy : y.ents = []) : totE (l ++ [y]) = totE l := by
  unfold totE
  rw [sumF_append]
  simp [sumF, hy]
theorem addR_good (hX : WF X) (op d : Int) (s : Tx) (kd : Int) (hkd : kd = 1 ∨ kd = 2 ∨ kd = 3) (mt : Mt) (tgt : Tx) (ht : kd ≠ 3 → tgt = []) : WF (addR X op d s kd mt tgt).X ∧ totE (addR X op d s kd mt tgt).X.l ≤ totE X.l + 1 := by
  unfold addR
  by_cases h : addE (hOf X) (qOf X.l) X.l.length d s kd mt tgt = 0
  · rw [if_pos h]
    obtain ⟨xd, hg, hk, hn, he, h3, hm, hl, hnx⟩ := addE_zero h
    obtain ⟨hdm, hdn⟩ := get_some hg
    have hnum := hX.nums xd hdm
    have hx1 := hX.x1
    obtain ⟨y, hy⟩ : ∃ y : Nd, y = ⟨X.next, kd, mt, [], tgt, []⟩ := ⟨_, rfl⟩
    have hok : NdOk y := by
      rw [hy]
      refine ⟨hm, ?_⟩
      rcases hkd with rfl | rfl | rfl
      · exact .inl ⟨rfl, rfl, ht (by decide)⟩
      · exact .inr (.inl ⟨rfl, by simp, ht (by decide), rfl⟩)
      · exact .inr (.inr ⟨rfl, rfl, h3 rfl, rfl⟩)
    have hW := wf_app hX (y := y) (by rw [hy]) hok (by rw [hy]) (by rw [hy]) hl hnx
    have hgd : get (X.l ++ [y]) d = some xd := by rw [get_append, hg]; rfl
    have hgn : get (X.l ++ [y]) X.next = some y := by
      rw [get_append, get_fresh hX.nums]
      unfold get
      simp [hy]
    have hlk : lks (X.l ++ [y]) X.next = 0 := by rw [lks_append _ (by rw [hy]), lks_fresh hX]
    rw [← hy]
    refine ⟨wfx_put hW hgd hk hn he hgn (by omega) (fun _ => hlk) (fun _ hs => ?_), ?_⟩
    · have := hs.leaf (fun z hz hzn => by
        have h5 := get_mem hW.srt hz
        rw [hzn] at h5
        have : get (X.l ++ [y]) X.next = some z := h5
        rw [hgn] at this
        injection this with this
        rw [← this, hy])
      omega
    · show totE (putE (X.l ++ [y]) d s X.next) ≤ _
      have hsr : Srt (X.l ++ [y]) := hW.srt
      rw [tot_putE hsr hgd, tot_app _ _ (by rw [hy])]
      omega
  · rw [if_neg h]; exact ⟨hX, Nat.le_succ _⟩
theorem addO_X {op d : Int} {s : Tx} {kd : Int} {mt : Mt} {tgt : Tx} {e : Ending} (hX : WF X) (H : FsH fb mb ot L (hOf X) (qOf X.l) X.l.length T w) (hA : AddO fb mb ot L (hOf X) (qOf X.l) X.l.length T op d s kd mt tgt w e w') : e = .returned (.tuple #[.int .i64 (addR X op d s kd mt tgt).n, .int .i64 (addR X op d s kd mt tgt).e]) ∧ OpO fb mb ot L X T (addR X op d s kd mt tgt) w w' := by
  unfold addR
  rcases hA with ⟨h, rfl, hN⟩ | ⟨h, rfl, hM⟩
  · rw [if_neg h]
    exact ⟨rfl, opo_nw H hN⟩
  · rw [if_pos h]
    obtain ⟨xd, hg, hk, hn, he, h3, hm, hl, hnx⟩ := addE_zero h
    refine ⟨rfl, ?_⟩
    unfold OpO
    have e1 : hOf { X with next := X.next + 1, l := putE (X.l ++ [⟨X.next, kd, mt, [], tgt, []⟩]) d s X.next } = { hOf X with next := (hOf X).next + 1 } := by
      unfold hOf
      simp only
      rw [held_add]
    have e2 : (putE (X.l ++ [⟨X.next, kd, mt, [], tgt, []⟩]) d s X.next).length = X.l.length + 1 := by unfold putE; rw [len_updL]; simp
    simp only
    rw [e1, e2, q_add hX hg he]
    exact hM
/-! ### Link -/
theorem lnkE_zero {d n : Int} {s : Tx} (h : lnkE (qOf X.l) d s n = 0) : ∃ xd xn, get X.l d = some xd ∧ xd.kind = 1 ∧ nmOk s = true ∧ entL xd.ents s = none ∧ get X.l n = some xn ∧ xn.kind ≠ 1 := by
  unfold lnkE at h
  cases hq : qOf X.l n with
  | none => rw [if_pos hq] at h; cases h
  | some pn =>
    rw [if_neg (by rw [hq]; simp)] at h
    obtain ⟨xn, hgn, _, _, rfl⟩ := qOf_some hq
    by_cases hu : unfQ (qOf X.l) [(d, s)] = 0
    · rw [if_neg (fun h => h hu)] at h
      obtain ⟨pd, hpd, hk, hn⟩ := unfQ_one hu
      obtain ⟨x, hg, _, _, rfl⟩ := qOf_some hpd
      split at h
      · cases h
      · rename_i h3
        split at h
        · cases h
        · rename_i h4
          refine ⟨x, xn, hg, hk, hn, ?_, hgn, ?_⟩
          · rw [qOf_get hg] at h3
            simp only [Option.bind_some] at h3
            cases hc : entL x.ents s with
            | none => rfl
            | some z => exact absurd (by show (entL x.ents s).isSome = true; rw [hc]; rfl) h3
          · intro hk1
            rw [isDir_get hgn, hk1] at h4
            exact h4 rfl
    · rw [if_pos hu] at h; exact absurd h hu
theorem lnkR_good (hX : WF X) (d : Int) (s : Tx) (n : Int) : WF (lnkR X d s n).X ∧ totE (lnkR X d s n).X.l ≤ totE X.l + 1 := by
  unfold lnkR
  by_cases h : lnkE (qOf X.l) d s n = 0
  · rw [if_pos h]
    obtain ⟨xd, xn, hg, hk, hnm, he, hgn, hkn⟩ := lnkE_zero h
    obtain ⟨hm, hn⟩ := get_some hgn
    have h1 : n ≠ 1 := fun e => by
      obtain ⟨r, t, el, r1, r2⟩ := hX.rt
      have hr : r ∈ X.l := by rw [el]; exact List.mem_cons_self ..
      rw [hX.uniq hm hr (by rw [hn, e, r1])] at hkn
      exact hkn r2
    exact ⟨wfx_put (hX.x n) hg hk hnm he hgn h1 (fun h => absurd h hkn) (fun h => absurd h hkn), by show totE (putE X.l d s n) ≤ _; rw [tot_putE hX.srt hg]; omega⟩
  · rw [if_neg h]; exact ⟨hX, Nat.le_succ _⟩
theorem lnkO_X {d n : Int} {s : Tx} {e : Ending} (hX : WF X) (H : FsH fb mb ot L (hOf X) (qOf X.l) X.l.length T w) (hA : LnkO fb mb ot L (hOf X) (qOf X.l) X.l.length T d s n w e w') : e = .returned (.int .i64 (lnkR X d s n).e) ∧ OpO fb mb ot L X T (lnkR X d s n) w w' := by
  unfold lnkR
  rcases hA with ⟨h, rfl, hN⟩ | ⟨h, rfl, hM⟩
  · rw [if_neg h]
    exact ⟨rfl, opo_nw H hN⟩
  · rw [if_pos h]
    obtain ⟨xd, xn, hg, hk, hnm, he, hgn, hkn⟩ := lnkE_zero h
    refine ⟨rfl, ?_⟩
    unfold OpO
    have e1 : hOf { X with l := putE X.l d s n } = hOf X := by
      unfold hOf
      simp only
      have : heldF (putE X.l d s n) = heldF X.l := held_updL d (f := fun x => { x with ents := insE s n x.ents }) (fun _ => rfl)
      rw [this]
    have e2 : (putE X.l d s n).length = X.l.length := by unfold putE; rw [len_updL]
    have hdn : d ≠ n := fun e => by
      rw [e, hgn] at hg
      injection hg with hg
      rw [hg] at hkn; exact hkn hk
    simp only
    rw [e1, e2, q_putE hX.srt hg he hgn hdn (fun h => absurd h hkn)]
    exact hM
/-! ### Unlink, Rmdir -/
theorem remE_zero {d : Int} {s : Tx} {b : Bool} (h : remE (qOf X.l) d s b = 0) : ∃ xd xn, fndQ (qOf X.l) d s = ((fndQ (qOf X.l) d s).1, 0) ∧ get X.l d = some xd ∧ entL xd.ents s = some (fndQ (qOf X.l) d s).1 ∧ (∀ hX : WF X, get X.l (fndQ (qOf X.l) d s).1 = some xn ∧ xn.ents = [] ∧ d ≠ (fndQ (qOf X.l) d s).1) := by
  unfold remE at h
  by_cases h2 : (fndQ (qOf X.l) d s).2 = 0
  · rw [if_neg (fun h => h h2)] at h
    have hf : fndQ (qOf X.l) d s = ((fndQ (qOf X.l) d s).1, 0) := by rw [← h2]
    obtain ⟨pd, hpd, hk, he⟩ := fndQ_ok hf
    obtain ⟨x, hg, _, _, rfl⟩ := qOf_some hpd
    split at h
    · cases h
    · split at h
      · cases h
      · rename_i h4
        cases hgn : get X.l (fndQ (qOf X.l) d s).1 with
        | none =>
          refine ⟨x, x, hf, hg, he, fun hX => ?_⟩
          obtain ⟨xn, hgn2, _⟩ := wf_entOk hX hg he
          rw [hgn] at hgn2; cases hgn2
        | some xn =>
          refine ⟨x, xn, hf, hg, he, fun hX => ⟨rfl, ?_, (wf_entOk hX hg he).choose_spec.2.2.2.2.1⟩⟩
          rw [qOf_get hgn] at h4
          simp only [Option.map_some, Option.getD_some] at h4
          have h4 : ¬ xn.ents.length > 0 := h4
          exact List.eq_nil_of_length_eq_zero (by omega)
  · rw [if_pos h2] at h; exact absurd h h2
theorem remR_good (hX : WF X) (op d : Int) (s : Tx) (b : Bool) : WF (remR X op d s b).X ∧ totE (remR X op d s b).X.l ≤ totE X.l + 1 := by
  unfold remR
  by_cases h : remE (qOf X.l) d s b = 0
  · rw [if_pos h]
    obtain ⟨xd, xn, hf, hg, he, hh⟩ := remE_zero h
    obtain ⟨hgn, hxe, hdn⟩ := hh hX
    exact ⟨wf_lea hX hg he hgn hdn hxe, Nat.le_trans (tot_leaL _ _ _ _) (Nat.le_succ _)⟩
  · rw [if_neg h]; exact ⟨hX, Nat.le_succ _⟩
theorem lea_h (hX : WF X) {d n : Int} {s : Tx} {xd xn : Nd} (hd : get X.l d = some xd) (he : entL xd.ents s = some n) (hn : get X.l n = some xn) (hdn : d ≠ n) : hOf { X with l := leaL X.l d s n } = leaH (hOf X) (pnOf X.l xn) := by
  have h1 : (leaH (hOf X) (pnOf X.l xn)).held = (heldF (leaL X.l d s n) : Int) := (len_leaL hX hd he hn hdn).2.symm
  unfold leaH at h1 ⊢
  split at h1
  · rename_i hc
    rw [if_pos hc]
    unfold hOf at h1 ⊢
    simp only at h1 ⊢
    rw [h1]
  · rename_i hc
    rw [if_neg hc]
    unfold hOf at h1 ⊢
    simp only at h1 ⊢
    rw [h1]
theorem remO_X {op d : Int} {s : Tx} {b : Bool} {e : Ending} (hX : WF X) (H : FsH fb mb ot L (hOf X) (qOf X.l) X.l.length T w) (hA : RemO fb mb ot L (hOf X) (qOf X.l) X.l.length T op d s b w e w') : e = .returned (.int .i64 (remR X op d s b).e) ∧ OpO fb mb ot L X T (remR X op d s b) w w' := by
  unfold remR
  rcases hA with ⟨h, rfl, hN⟩ | ⟨h, rfl, n, pn, hfn, hqn, hM⟩
  · rw [if_neg h]
    exact ⟨rfl, opo_nw H hN⟩
  · rw [if_pos h]
    obtain ⟨xd, xn, hf, hg, he, hh⟩ := remE_zero h
    obtain ⟨hgn, hxe, hdn⟩ := hh hX
    refine ⟨rfl, ?_⟩
    unfold OpO
    have en : (fndQ (qOf X.l) d s).1 = n := by rw [hfn]
    rw [en] at he hgn hdn ⊢
    have epn : pn = pnOf X.l xn := by rw [qOf_get hgn] at hqn; injection hqn with hqn; exact hqn.symm
    rw [epn] at hM
    simp only
    rw [lea_h hX hg he hgn hdn, (len_leaL hX hg he hgn hdn).1, q_leaL hX hg he hgn hdn hxe]
    exact hM
/-! ### Bytes, metas -/
theorem dat_q (hX : WF X) {n : Int} {x : Nd} (hn : get X.l n = some x) (f : List By → List By) : qOf (datR X.l n f) = fun j => if j = n then some { pnOf X.l x with data := f x.data } else qOf X.l j := by
  have := q_upd hX.srt hn (f := fun x => { x with data := f x.data }) (fun _ => rfl) (fun _ => rfl)
  exact this
theorem tot_dat (l : List Nd) (n : Int) (f : List By → List By) : totE (datR l n f) = totE l := tot_same n (f := fun x => { x with data := f x.data }) (fun _ => rfl)
theorem dat_held (hX : WF X) {n : Int} {x : Nd} (hn : get X.l n = some x) (f : List By → List By) : heldF (datR X.l n f) + x.data.length = heldF X.l + (f x.data).length := sumF_updL (fun x => x.data.length) hX.srt hn (fun x => { x with data := f x.data })
theorem dat_wf (hX : WF X) {n : Int} {x : Nd} (hn : get X.l n = some x) (hk : x.kind = 2) (f : List By → List By) (hl : (f x.data).length ≤ 4194304) (hb : (heldF X.l : Int) + ((f x.data).length : Int) ≤ X.bytes + (x.data.length : Int)) : WF { X with l := datR X.l n f } := by
  obtain ⟨hm, _⟩ := get_some hn
  have hh := dat_held hX hn f
  refine wf_upd hX hn (f := fun x => { x with data := f x.data }) (fun _ => rfl) (fun _ => rfl) (fun _ => rfl) ?_ (by show (heldF (datR X.l n f) : Int) ≤ X.bytes; omega)
  obtain ⟨m, h⟩ := hX.kinds x hm
  refine ⟨m, ?_⟩
  rcases h with ⟨a, _⟩ | ⟨a, b, c, e⟩ | ⟨a, _⟩
  · omega
  · exact .inr (.inl ⟨a, hl, c, e⟩)
  · omega
theorem rszE_zero {n size : Int} (h : rszE (hOf X) (qOf X.l) n size = 0) : ∃ x, get X.l n = some x ∧ x.kind = 2 ∧ 0 ≤ size ∧ size ≤ 4194304 ∧ ¬ X.bytes - (heldF X.l : Int) < size - (x.data.length : Int) := by
  unfold rszE at h
  cases hq : qOf X.l n with
  | none => rw [hq] at h; cases h
  | some p =>
    rw [hq] at h
    obtain ⟨x, hg, _, _, rfl⟩ := qOf_some hq
    simp only at h
    split at h
    · cases h
    · rename_i h1
      split at h
      · cases h
      · rename_i h2
        split at h
        · cases h
        · rename_i h3
          refine ⟨x, hg, ?_, by omega, by omega, h3⟩
          by_cases hk : x.kind = 2
          · exact hk
          · exact absurd hk h2
theorem rszR_good (hX : WF X) (n size : Int) : WF (rszR X n size).X ∧ totE (rszR X n size).X.l ≤ totE X.l + 1 := by
  unfold rszR
  by_cases h : rszE (hOf X) (qOf X.l) n size = 0
  · rw [if_pos h]
    obtain ⟨x, hg, hk, h1, h2, h3⟩ := rszE_zero h
    refine ⟨dat_wf hX hg hk _ (by rw [rszD_len]; omega) (by rw [rszD_len]; omega), ?_⟩
    simp only [tot_dat]; omega
  · rw [if_neg h]; exact ⟨hX, Nat.le_succ _⟩
theorem rsO_X {n size : Int} {e : Ending} (hX : WF X) (H : FsH fb mb ot L (hOf X) (qOf X.l) X.l.length T w) (hA : RsO fb mb ot L (hOf X) (qOf X.l) X.l.length T n size w e w') : e = .returned (.int .i64 (rszR X n size).e) ∧ OpO fb mb ot L X T (rszR X n size) w w' := by
  unfold rszR
  rcases hA with ⟨h, rfl, hN⟩ | ⟨h, rfl, p, hqn, hM⟩
  · rw [if_neg h]
    exact ⟨rfl, opo_nw H hN⟩
  · rw [if_pos h]
    obtain ⟨x, hg, hk, h1, h2, h3⟩ := rszE_zero h
    refine ⟨rfl, ?_⟩
    have ep : p = pnOf X.l x := by rw [qOf_get hg] at hqn; injection hqn with hqn; exact hqn.symm
    rw [ep] at hM
    unfold OpO
    simp only
    have hh := dat_held hX hg (fun l => rszD l size.toNat)
    rw [rszD_len] at hh
    have e1 : hOf { X with l := datR X.l n (fun l => rszD l size.toNat) } = rszH (hOf X) (pnOf X.l x) size.toNat := by
      unfold hOf rszH
      simp only
      congr 1
      show (heldF (datR X.l n (fun l => rszD l size.toNat)) : Int) = (heldF X.l : Int) + ((size.toNat : Int) - (x.data.length : Int))
      omega
    have e2 : (datR X.l n (fun l => rszD l size.toNat)).length = X.l.length := len_updL ..
    rw [e1, e2, dat_q hX hg]
    exact hM
theorem wrE_zero {n pl : Int} {b : List By} (h : wrE (hOf X) (qOf X.l) n pl b = 0) : ∃ x, get X.l n = some x ∧ x.kind = 2 ∧ 0 ≤ pl ∧ pl + (b.length : Int) ≤ 4194304 ∧ ¬ (b ≠ [] ∧ X.bytes - (heldF X.l : Int) < max (x.data.length : Int) (pl + (b.length : Int)) - (x.data.length : Int)) := by
  unfold wrE at h
  cases hq : qOf X.l n with
  | none => rw [hq] at h; cases h
  | some p =>
    rw [hq] at h
    obtain ⟨x, hg, _, _, rfl⟩ := qOf_some hq
    simp only at h
    split at h
    · cases h
    · rename_i h1
      split at h
      · cases h
      · rename_i h2
        split at h
        · cases h
        · rename_i h3
          refine ⟨x, hg, ?_, by omega, by omega, h3⟩
          by_cases hk : x.kind = 2
          · exact hk
          · exact absurd hk h2
theorem wrD_len (l : List By) (A : Nat) (b : List By) : (wrD l A b).length = if b = [] then l.length else max l.length (A + b.length) := by
  unfold wrD
  by_cases h : b = []
  · rw [if_pos h, if_pos h]
  · rw [if_neg h, if_neg h, ovl_len, rszD_len]
    rw [rszD_len]; omega
theorem wr_held (hX : WF X) {n : Int} {x : Nd} (hg : get X.l n = some x) (pl : Int) (hp : 0 ≤ pl) (b : List By) : hOf { X with l := datR X.l n (fun l => wrD l pl.toNat b) } = wrH (hOf X) (pnOf X.l x) pl.toNat b := by
  have hh := dat_held hX hg (fun l => wrD l pl.toNat b)
  rw [wrD_len] at hh
  unfold wrH
  by_cases hb : b = []
  · rw [if_pos hb]
    rw [if_pos hb] at hh
    unfold hOf
    simp only
    congr 1
    omega
  · rw [if_neg hb]
    rw [if_neg hb] at hh
    unfold hOf rszH
    simp only
    congr 1
    show (heldF (datR X.l n (fun l => wrD l pl.toNat b)) : Int) = (heldF X.l : Int) + ((max x.data.length (pl.toNat + b.length) : Nat) - (x.data.length : Int))
    omega
theorem wrR_good (hX : WF X) (n pl : Int) (b : List By) : WF (wrR X n pl b).X ∧ totE (wrR X n pl b).X.l ≤ totE X.l + 1 := by
  unfold wrR
  by_cases h : wrE (hOf X) (qOf X.l) n pl b = 0
  · rw [if_pos h]
    obtain ⟨x, hg, hk, h1, h2, h3⟩ := wrE_zero h
    obtain ⟨hm, _⟩ := get_some hg
    have hl := (hX.kinds x hm).len
    have hh := hX.held
    refine ⟨dat_wf hX hg hk _ ?_ ?_, ?_⟩
    · rw [wrD_len]
      split
      · exact hl
      · omega
    · rw [wrD_len]
      split
      · omega
      · rename_i hb
        have h4 : ¬ X.bytes - (heldF X.l : Int) < max (x.data.length : Int) (pl + (b.length : Int)) - (x.data.length : Int) := fun h => h3 ⟨hb, h⟩
        omega
    · simp only [tot_dat]; omega
  · rw [if_neg h]; exact ⟨hX, Nat.le_succ _⟩
theorem wrO_X {n pl : Int} {b : List By} {e : Ending} (hX : WF X) (H : FsH fb mb ot L (hOf X) (qOf X.l) X.l.length T w) (hA : WrO fb mb ot L (hOf X) (qOf X.l) X.l.length T n pl b w e w') : e = .returned (.int .i64 (wrR X n pl b).e) ∧ OpO fb mb ot L X T (wrR X n pl b) w w' := by
  unfold wrR
  rcases hA with ⟨h, rfl, hN⟩ | ⟨h, rfl, p, hqn, hM⟩
  · rw [if_neg h]
    exact ⟨rfl, opo_nw H hN⟩
  · rw [if_pos h]
    obtain ⟨x, hg, hk, h1, h2, h3⟩ := wrE_zero h
    refine ⟨rfl, ?_⟩
    have ep : p = pnOf X.l x := by rw [qOf_get hg] at hqn; injection hqn with hqn; exact hqn.symm
    rw [ep] at hM
    unfold OpO
    simp only
    have e2 : (datR X.l n (fun l => wrD l pl.toNat b)).length = X.l.length := len_updL ..
    rw [wr_held hX hg pl h1, e2, dat_q hX hg]
    exact hM
theorem chE_zero {n : Int} {m : Mt} (h : chE (qOf X.l) n m = 0) : ∃ x, get X.l n = some x ∧ mtOk m = true := by
  unfold chE at h
  cases hq : qOf X.l n with
  | none => rw [hq] at h; cases h
  | some p =>
    rw [hq] at h
    obtain ⟨x, hg, _, _, rfl⟩ := qOf_some hq
    simp only at h
    split at h
    · rename_i hm; exact ⟨x, hg, hm⟩
    · cases h
theorem chR_good (hX : WF X) (n : Int) (m : Mt) : WF (chR X n m).X ∧ totE (chR X n m).X.l ≤ totE X.l + 1 := by
  unfold chR
  by_cases h : chE (qOf X.l) n m = 0
  · rw [if_pos h]
    obtain ⟨x, hg, hm⟩ := chE_zero h
    obtain ⟨hxm, _⟩ := get_some hg
    refine ⟨wf_upd hX hg (f := fun x => { x with mt := m }) (fun _ => rfl) (fun _ => rfl) (fun _ => rfl) ?_ ?_, ?_⟩
    · obtain ⟨_, h2⟩ := hX.kinds x hxm
      exact ⟨hm, h2⟩
    · have e : heldF (updL X.l n (fun x => { x with mt := m })) = heldF X.l := held_updL n (f := fun x => { x with mt := m }) (fun _ => rfl)
      rw [e]; exact hX.held
    · show totE (updL X.l n (fun x => { x with mt := m })) ≤ _
      rw [tot_same n (f := fun x => { x with mt := m }) (fun _ => rfl)]; omega
  · rw [if_neg h]; exact ⟨hX, Nat.le_succ _⟩
theorem chO_X {n : Int} {m : Mt} {e : Ending} (hX : WF X) (H : FsH fb mb ot L (hOf X) (qOf X.l) X.l.length T w) (hA : ChO fb mb ot L (hOf X) (qOf X.l) X.l.length T n m w e w') : e = .returned (.int .i64 (chR X n m).e) ∧ OpO fb mb ot L X T (chR X n m) w w' := by
  unfold chR
  rcases hA with ⟨h, rfl, hN⟩ | ⟨h, rfl, p, hqn, hM⟩
  · rw [if_neg h]
    exact ⟨rfl, opo_nw H hN⟩
  · rw [if_pos h]
    obtain ⟨x, hg, hm⟩ := chE_zero h
    refine ⟨rfl, ?_⟩
    have ep : p = pnOf X.l x := by rw [qOf_get hg] at hqn; injection hqn with hqn; exact hqn.symm
    rw [ep] at hM
    unfold OpO
    simp only
    have e0 : heldF (updL X.l n (fun x => { x with mt := m })) = heldF X.l := held_updL n (f := fun x => { x with mt := m }) (fun _ => rfl)
    have e1 : hOf { X with l := updL X.l n (fun x => { x with mt := m }) } = hOf X := by unfold hOf; simp only; rw [e0]
    have e2 : (updL X.l n (fun x => { x with mt := m })).length = X.l.length := len_updL ..
    rw [e1, e2, q_upd hX.srt hg (f := fun x => { x with mt := m }) (fun _ => rfl) (fun _ => rfl)]
    exact hM
/-! ### Rename -/
theorem tot_renR (hX : WF X) (d : Int) (s : Tx) (t : Int) (s2 : Tx) (hE : renE X.l d s t s2 = 0) : totE (renR X.l d s t s2) ≤ totE X.l + 1 := by
  obtain ⟨hu, h0, hst⟩ := renE_zero hE
  unfold renR
  by_cases hxy : entX X.l d s = entX X.l t s2
  · rw [if_pos hxy]; omega
  · rw [if_neg hxy]
    obtain ⟨xd, xt, xx, r⟩ := renF_of hX hu h0 hxy (hst hxy)
    obtain ⟨h1, xd1, xt1, xx1, r1, _⟩ := r.way1 hX
    have hw : totE (wayL X.l t s2 (entX X.l t s2)) ≤ totE X.l := by
      unfold wayL
      split
      · exact Nat.le_refl _
      · exact tot_leaL _ _ _ _
    have hr := tot_rmvE (wayL X.l t s2 (entX X.l t s2)) d s
    have hg : ∃ z, get (rmvE (wayL X.l t s2 (entX X.l t s2)) d s) t = some z := by
      rw [get_rmvE]
      split
      · rw [r1.ht]; exact ⟨_, rfl⟩
      · exact ⟨_, r1.ht⟩
    obtain ⟨z, hz⟩ := hg
    have hsr : Srt (rmvE (wayL X.l t s2 (entX X.l t s2)) d s) := srt_updL h1.srt d (fun _ => rfl)
    unfold renL
    rw [tot_putE hsr hz]
    omega
theorem rnR_good (hX : WF X) (d : Int) (s : Tx) (t : Int) (s2 : Tx) : WF (rnR X d s t s2).X ∧ totE (rnR X d s t s2).X.l ≤ totE X.l + 1 := by
  unfold rnR
  by_cases h : renE X.l d s t s2 = 0
  · rw [if_pos h]
    exact ⟨renR_wf hX h, tot_renR hX d s t s2 h⟩
  · rw [if_neg h]; exact ⟨hX, Nat.le_succ _⟩
theorem rnO_X {d : Int} {s : Tx} {t : Int} {s2 : Tx} {e : Ending} (H : FsH fb mb ot L (hOf X) (qOf X.l) X.l.length T w) (hA : RnO fb mb ot L X T d s t s2 w e w') : e = .returned (.int .i64 (rnR X d s t s2).e) ∧ OpO fb mb ot L X T (rnR X d s t s2) w w' := by
  unfold rnR
  rcases hA with ⟨h, rfl, hN⟩ | ⟨h, rfl, hM⟩
  · rw [if_neg h]
    exact ⟨rfl, opo_nw H hN⟩
  · rw [if_pos h]
    exact ⟨rfl, hM⟩
end Go.Proofs.YtcogkhcfpgelhabGreat
