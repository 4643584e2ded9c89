import Derived.Test.YtenkchhlaphocaaGreatDoorNjN
import Derived.Deep.AppendSrc
import Derived.Lib.AppendZeros
namespace Go.Proofs.YtenkchhlaphocaaGreatDoor
open Go.RowKit
set_option linter.unusedVariables false
/-! ### Lists of pairs in memory; Parse -/
def RP : RT Pr := { enc := fun x => [.string (str x.1), .string (str x.2)], k := 2, T := 28, TS := 22, z := ([], []), by_ := 32 }
theorem rpOk : RP.Ok := by
  refine ⟨fun _ => rfl, by decide, fun x v hv => ?_, Tryz.underlying22, ?_⟩
  · simp only [RP, List.mem_cons, List.mem_nil_iff, or_false] at hv
    rcases hv with rfl | rfl <;> rfl
  · have h : (Tryz.prog.info? 28).map (fun i => (i.zero, i.size, i.bytes)) = some (some (.agg #[.string ⟨#[]⟩, .string ⟨#[]⟩]), 2, 32) := by kernel_rfl
    cases hq : Tryz.prog.info? 28 with
    | none => simp [hq] at h
    | some i => simp [hq] at h; exact ⟨i, _, hq, h.1, h.2.1, h.2.2, rfl⟩
theorem SlR.anyP {X : Nat → Prop} {v : Value} {l : List Pr} {w : World} (h : SlR RP X v l w) : SlR RP (fun _ => False) v l w := h.mono (fun _ h => h.elim)
theorem litP (V : World) (x : Pr) : OwR RP V.heap.size (.slice (some ⟨V.heap.size, 0, none⟩) 1 1) [x] (V.alloc (.cells (prC x) 28)) := OwR.built rpOk V [x] _ (by simp [flatR, RP, prC]) (by simp)
/-- One more behind a list of pairs. -/
theorem pushP (V : World) (og : Option Nat) (v : Value) (l : List Pr) (h : OgR RP og v l V) (hl : l.length ≤ 1000000000) (x : Pr) :
    ∃ og' v' W, Hid (∀ ty, (Builtin.append_ #[22, 22] ty #[v, .slice (some ⟨V.heap.size, 0, none⟩) 1 1]).run Tryz.prog (V.alloc (.cells (prC x) 28)) = .ok v' W) ∧
      OgR RP og' v' (l ++ [x]) W ∧ Fr (fun k => og = some k) V W ∧ Went og og' V := by
  have hN : Nw V (V.alloc (.cells (prC x) 28)) := (Fr.refl _ _).alloc _
  have hb := litP V x
  obtain ⟨v', og', W, k1, k2, k3, k4⟩ := ogR_app rpOk _ og v l (h.nw hN) (.slice (some ⟨V.heap.size, 0, none⟩) 1 1) [x] (hb.slr rpOk).anyP (by simp only [RP, List.length_singleton]; omega) (by simp only [List.length_singleton]; omega)
  exact ⟨og', v', W, k1, k2, hN.any.trans k3, Went.trans (Went.refl _ _) k4 hN.size⟩
/-- How Parse's loop stands. -/
def PaI (w : World) (b : Bs) (I : Nat) (v : Value) (V : World) : Prop := ∃ og acc, OgR RP og v acc V ∧ Nw w V ∧ (∀ g, og = some g → w.heap.size ≤ g) ∧ prs b 0 [] = prs b I acc ∧ acc.length ≤ I
theorem PaI.start (w : World) (b : Bs) : PaI w b 0 (.slice none 0 0) w := ⟨none, [], ⟨rfl, rfl⟩, Fr.refl _ _, (fun g h => by cases h), rfl, Nat.le_refl _⟩
theorem PaI.nw {w : World} {b : Bs} {I : Nat} {v : Value} {V V' : World} (h : PaI w b I v V) (f : Nw V V') : PaI w b I v V' := by
  obtain ⟨og, acc, h1, h2, h3, h4, h5⟩ := h
  exact ⟨og, acc, h1.nw f, h2.trans f, h3, h4, h5⟩
theorem PaI.push {w : World} {b : Bs} {I : Nat} {v : Value} {V : World} (h : PaI w b I v V) (hI : I < b.length) (hb : b.length ≤ 1000000000) (x : Pr) (m : Nat) (hr : rc1 (b.drop I) = .ok x m) : ∃ v' W, Hid (∀ ty, (Builtin.append_ #[22, 22] ty #[v, .slice (some ⟨V.heap.size, 0, none⟩) 1 1]).run Tryz.prog (V.alloc (.cells (prC x) 28)) = .ok v' W) ∧ PaI w b (I + m) v' W := by
  obtain ⟨og, acc, h1, h2, h3, h4, h5⟩ := h
  obtain ⟨og', v', W, k1, k2, k3, k4⟩ := pushP V og v acc h1 (by omega) x
  refine ⟨v', W, k1, og', acc ++ [x], k2, h2.then k3 (fun i hi => .inr (h3 i hi)), fun g hg => ?_, ?_, ?_⟩
  · rcases k4 with e | ⟨g', e, hg'⟩
    · rw [e] at hg; exact h3 g hg
    · rw [e] at hg; injection hg with hg; subst hg; exact Nat.le_trans h2.size hg'
  · rw [h4]; exact prs_ok b I acc hI x m hr
  · have := rc1_ok hr
    rw [List.length_append, List.length_singleton]; omega
/-- What Parse answers. -/
def PaA (w : World) (b : Bs) (e : Ending) (V : World) : Prop := ∃ v, e = .returned (.tuple #[v, .int .i64 ((prs b 0 []).2.1 : Nat), .int .i64 ((prs b 0 []).2.2 : Nat)]) ∧ Hid (Nw w V ∧ ∃ og, OgR RP og v (prs b 0 []).1 V ∧ ∀ g, og = some g → w.heap.size ≤ g)
theorem PaI.fin {w : World} {b : Bs} {I : Nat} {v : Value} {V : World} (h : PaI w b I v V) (hI : ¬ I < b.length) : PaA w b (.returned (.tuple #[v, .int .i64 0, .int .i64 0])) V := by
  obtain ⟨og, acc, h1, h2, h3, h4, h5⟩ := h
  rw [prs_end b I acc hI] at h4
  refine ⟨v, by rw [h4]; rfl, h2, og, ?_, h3⟩
  rw [h4]; exact h1
theorem PaI.bad {w : World} {b : Bs} {I : Nat} {v : Value} {V : World} (h : PaI w b I v V) (hI : I < b.length) (m e : Nat) (hr : rc1 (b.drop I) = .bad m e) : PaA w b (.returned (.tuple #[.slice none 0 0, .int .i64 ((I + m : Nat) : Int), .int .i64 (e : Nat)])) V := by
  obtain ⟨og, acc, h1, h2, h3, h4, h5⟩ := h
  rw [prs_bad b I acc hI m e hr] at h4
  refine ⟨.slice none 0 0, by rw [h4], h2, none, ?_, (fun g h => by cases h)⟩
  rw [h4]; exact ⟨rfl, rfl⟩
set_option maxHeartbeats 8000000 in
set_option maxRecDepth 100000 in
theorem parse_any {X : Nat → Prop} (w : World) (a : Option Addr) (n c : Nat) (b : List By) (hb : Sl X (.slice a n c) b w) (hn : n ≤ 1000000000) :
    Calls Tryz.prog 10 #[.slice a n c] w (PaA w b) := by
  obtain ⟨P, hP⟩ : ∃ P : Ending → World → Prop, P = PaA w b := ⟨_, rfl⟩
  rw [← hP]
  have HF1 : Hid (∀ I v V, PaI w b I v V → ¬ I < b.length → P (.returned (.tuple #[v, .int .i64 0, .int .i64 0])) V) := fun I v V h1 h2 => by rw [hP]; exact h1.fin h2
  have HF2 : Hid (∀ I v V m e, PaI w b I v V → I < b.length → rc1 (b.drop I) = .bad m e → P (.returned (.tuple #[.slice none 0 0, .int .i64 ((I + m : Nat) : Int), .int .i64 (e : Nat)])) V) := fun I v V m e h1 h2 h3 => by rw [hP]; exact h1.bad h2 m e h3
  clear hP
  obtain ⟨hbn, k1, k2⟩ := sl_len hb
  have HB := tHid (And.intro hbn hb)
  clear hb hbn
  go_enter Tryz.func10, Tryz.ntmps10
  go_upto_region 3 with fail
  go_loopg [5, 6] n (fun kx v i wr => ∃ (I : Nat) (v5 : Value), I ≤ n ∧ n - I ≤ kx ∧ v = v5 ∧ i = .int .i64 I ∧ Hid (PaI w b I v5 wr))
  case atStart => exact ⟨0, _, by omega, by omega, rfl, rfl, PaI.start w b⟩
  case round =>
    obtain ⟨I, v5, hI, hkx, hv5, rfl, HI⟩ := hrel
    have hv5' := hv5.symm
    subst hv5'
    clear hv5
    obtain ⟨hbn, hS⟩ := HB.out
    by_cases hlt : I < n
    · have hNw : Nw w wr := by obtain ⟨_, _, _, h2, _⟩ := HI.out; exact h2
      obtain ⟨g, o, rfl, hS1⟩ := sl_last (hS.nw hNw) I hlt
      have HC := tHid (first_any wr _ _ _ _ hS1 (by omega))
      obtain ⟨N1, hN1⟩ : ∃ N1, n - I = N1 := ⟨_, rfl⟩
      obtain ⟨C1, hC1⟩ : ∃ C1, c - I = C1 := ⟨_, rfl⟩
      rw [hN1, hC1] at HC
      have e1 : (I : Int) ≤ (n : Int) := by omega
      have e2 : (n : Int) ≤ (c : Int) := by omega
      have e3 : I < c := by omega
      have e4 : ¬ c ≤ I := by omega
      have e5 : ¬ c = I := by omega
      have e7 : (n : Int) - (I : Int) = (N1 : Int) := by omega
      have hlt' : I < b.length := by omega
      have HLT := tHid hlt'
      have HBN := tHid hbn
      cases hr : rc1 (b.drop I) with
      | bad m e =>
        rw [hr] at HC
        have hb3 := rc1_bad hr
        rw [List.length_drop, hbn] at hb3
        have he0 : ¬ ((e : Int) = 0) := by omega
        have he1 : ((e : Int) == 0) = false := by rw [beq_eq_false_iff_ne]; exact he0
        have he2 : ((e : Int) != 0) = true := by rw [bne, he1]; rfl
        have HF3 : Hid (∀ V, Nw wr V → P (.returned (.tuple #[.slice none 0 0, .int .i64 ((I + m : Nat) : Int), .int .i64 (e : Nat)])) V) := fun V hV => HF2.out I _ V m e (HI.out.nw hV) hlt' hr
        obtain ⟨K, hK⟩ : ∃ K, I + m = K := ⟨_, rfl⟩
        have hKi : (I : Int) + (m : Int) = (K : Int) := by omega
        rw [hK] at HF3
        have hKn : K ≤ n := by omega
        simp only [rxV, prC] at HC
        clear HF1 HF2 hr hb3 hK hlt' hbn hS hS1 hNw
        go_wp2_with (first
          | (go_at_call 20; with_reducible refine HC.out.mono ?_; rintro e w1 ⟨rfl, H1⟩; have H1 := tHid H1))
        first | exact HF3.out _ (H1.out.alloc _) | (go_ret; exact HF3.out _ (H1.out.alloc _))
      | ok x m =>
        rw [hr] at HC
        have hb3 := rc1_ok hr
        rw [List.length_drop, hbn] at hb3
        have HP : Hid (∀ V, Nw wr V → ∃ v' W, Hid (∀ ty, (Builtin.append_ #[22, 22] ty #[v5, .slice (some ⟨V.heap.size, 0, none⟩) 1 1]).run Tryz.prog (V.alloc (.cells (prC x) 28)) = .ok v' W) ∧ PaI w b (I + m) v' W) := fun V hV => (HI.out.nw hV).push hlt' (by omega) x m hr
        obtain ⟨K, hK⟩ : ∃ K, I + m = K := ⟨_, rfl⟩
        have hKi : (I : Int) + (m : Int) = (K : Int) := by omega
        rw [hK] at HP
        have hKn : K ≤ n := by omega
        have hKI : I < K := by omega
        have hmn : m ≤ n := by omega
        simp only [rxV] at HC
        obtain ⟨xk, hxk⟩ : ∃ s, str x.1 = s := ⟨_, rfl⟩
        obtain ⟨xv, hxv⟩ : ∃ s, str x.2 = s := ⟨_, rfl⟩
        have hpc : prC x = #[.string xk, .string xv] := by rw [← hxk, ← hxv]; rfl
        rw [hpc] at HC HP
        clear HF1 HF2 hr hb3 hK hlt' hbn hS hS1 hNw hxk hxv hpc HI
        go_upto_region 7 with (first
          | (go_at_call 20; with_reducible refine HC.out.mono ?_; rintro e w1 ⟨rfl, H1⟩; have H1 := tHid H1))
        obtain ⟨W2, hW2⟩ : ∃ W2, w1.alloc (.cells #[.string xk, .string xv] 28) = W2 := ⟨_, rfl⟩
        have hpb : W2.heap[w1.heap.size]? = some (.cells #[.string xk, .string xv] 28) := by rw [← hW2]; exact newHeap _ _
        have c0 : W2.cell? ⟨w1.heap.size, 0, none⟩ = some (.string xk) := by unfold World.cell?; rw [hpb]; rfl
        have c1 : W2.cell? ⟨w1.heap.size, 1, none⟩ = some (.string xv) := by unfold World.cell?; rw [hpb]; rfl
        obtain ⟨v', W3, HA, HI3⟩ := HP.out W2 (by rw [← hW2]; exact H1.out.alloc _)
        have HI3 := tHid HI3
        rw [hW2]
        clear hW2 hpb HP HC
        go_wp2_with (first
          | (at_builtin; refine Lib.wpList_append_run _ rfl _ _ 22 22 rfl v5 (.slice (some ⟨W2.heap.size, 0, none⟩) 1 1) (by first | rfl | simp [Act.eval]) (by first | rfl | simp [Act.eval]) _ _ (HA.out _) ?_))
        go_roundg (n - K)
        case measure => omega
        case rel => exact ⟨K, _, by omega, by omega, rfl, by first | rfl | (congr 1), HI3⟩
    · have HF3 := tHid (HF1.out I _ wr HI.out (by omega))
      obtain rfl : I = n := by omega
      clear HF1 HF2 HI hS hbn
      go_wp2_with fail
      first | exact HF3.out | (go_ret; exact HF3.out)
end Go.Proofs.YtenkchhlaphocaaGreatDoor
