import Derived.Test.YtincbbnppcpfpaaDoorTcd
import Derived.Test.YtincbbnppcpfpaaDoorTce
import Derived.Test.YtincbbnppcpfpaaDoorTav
namespace Go.Proofs.YtincbbnppcpfpaaDoor
open Go.RowKit
set_option linter.unusedVariables false
variable {sb ga cg most p er : Nat} {b out : List By} {og : Option Nat} {vo : Value} {w : World} {ls : List Nat}
/-- How all stands behind a block. -/
def BlkE (b : List By) (most : Nat) (RES : Sx × Bt × Nat) (lst : Bool) (out : List By) (p : Nat) : Prop :=
  (lst = true ∧ RES.2.2 = 0 ∧ RES.1.out = out ∧ RES.2.1.n = (8 * b.length - p) - (8 * b.length - p) % 8) ∨ (lst = false ∧ ∃ s', s'.md = 0 ∧ s'.out = out ∧ RES = run most s' (bt b p))
theorem blk_end {s s1 : Sx} {t : Bt} (hm : s.md ≠ 3) (h : stepR most s t = endB s1 (bt b p)) : BlkE b most (run most s t) s1.lst s1.out p := by
  unfold endB at h
  cases hl : s1.lst with
  | true =>
    rw [if_pos hl] at h
    have h' : stepR most s t = .ok ({ s1 with md := 3 }, ⟨(bt b p).n - (bt b p).n % 8, (bt b p).x / 2 ^ ((bt b p).n % 8)⟩) := h
    refine .inl ⟨rfl, ?_⟩
    rw [run_ok hm h', run_end rfl]
    exact ⟨rfl, rfl, rfl⟩
  | false =>
    rw [if_neg (by rw [hl]; decide)] at h
    have h' : stepR most s t = .ok ({ s1 with md := 0 }, bt b p) := h
    exact .inr ⟨rfl, { s1 with md := 0 }, rfl, rfl, run_ok hm h'⟩
theorem step_sym {s : Sx} (h : s.md = 2) (t : Bt) : stepR most s t = symbolR most s t := by
  unfold stepR
  rw [if_neg (by omega), if_neg (by omega), if_pos h]
theorem run_err {s : Sx} {t : Bt} {e : Nat} (hm : s.md ≠ 3) (h : stepR most s t = .bad e) : (run most s t).2.2 = e ∧ (run most s t).1.out = s.out := by
  rw [run_bad hm h]; exact ⟨rfl, rfl⟩
/-- How the loop over symbols stands. -/
def SymI (sb ga cg : Nat) (b : List By) (most p : Nat) (og : Option Nat) (s : Sx) (RES : Sx × Bt × Nat) (w : World) (k er p' : Nat) (wr : World) : Prop :=
  ∃ s' og' vo', p ≤ p' ∧ DsI sb ga cg b most p' og' vo' s'.out er wr ∧ Went og og' w ∧ Fr (fun k => k = sb ∨ og = some k) w wr ∧ s'.md = 2 ∧ s'.la = s.la ∧ s'.lb = s.lb ∧ s'.lst = s.lst ∧ ((er ≠ 0 ∧ RES.2.2 = er ∧ RES.1.out = s'.out) ∨ (er = 0 ∧ 8 * b.length - p' + 1 ≤ k ∧ RES = run most s' (bt b p')))
def SlA (sb ga cg : Nat) (b : List By) (most p : Nat) (og : Option Nat) (lst : Bool) (RES : Sx × Bt × Nat) (w : World) (e : Ending) (w' : World) : Prop := (∃ r, e = .returned r) ∧ Hid (∃ p' er' og' vo' out', p ≤ p' ∧ DsI sb ga cg b most p' og' vo' out' er' w' ∧ Went og og' w ∧ Fr (fun k => k = sb ∨ og = some k) w w' ∧ ((er' ≠ 0 ∧ RES.2.2 = er' ∧ RES.1.out = out') ∨ (er' = 0 ∧ BlkE b most RES lst out' p')))
theorem Fr.went {X : Nat → Prop} {og og' : Option Nat} {w wr w' : World} (h : Fr (fun k => k = sb ∨ og = some k) w wr) (hg : Went og og' w) (k : Fr (fun k => k = sb ∨ og' = some k) wr w') : Fr (fun k => k = sb ∨ og = some k) w w' := by
  refine Fr.then h k (fun i hi => ?_)
  rcases hi with hi | hi
  · exact .inl (.inl hi)
  · rcases hg with e | ⟨g', e, hg⟩
    · exact .inl (.inr (by rw [← e]; exact hi))
    · rw [e] at hi; injection hi with hi; subst hi; exact .inr hg
set_option maxHeartbeats 64000000 in
set_option maxRecDepth 100000 in
theorem hsymbols_any (s : Sx) (hmd : s.md = 2) (h : DsI sb ga cg b most p og vo s.out 0 w) (va vd : Value) (ha : SlR RI (fun k => w.heap.size ≤ k ∨ k = sb ∨ og = some k) va (toI s.la) w) (hd : SlR RI (fun k => w.heap.size ≤ k ∨ k = sb ∨ og = some k) vd (toI s.lb) w) (hka : Cod s.la) (h15 : ∀ i, s.lb.getD i 0 ≤ 15) (hl : s.lb.length ≤ 320) (hk : sumL s.lb = 0 ∨ Cod s.lb) :
    Calls Tryd.prog 38 #[.pointer (some ⟨sb, 0, none⟩), va, vd] w (SlA sb ga cg b most p og s.lst (run most s (bt b p)) w) := by
  obtain ⟨RES, hRES⟩ : ∃ RES, RES = run most s (bt b p) := ⟨_, rfl⟩
  rw [← hRES]
  obtain ⟨P, hP⟩ : ∃ P, P = SlA sb ga cg b most p og s.lst RES w := ⟨_, rfl⟩
  rw [← hP]
  have HI0 : Hid (SymI sb ga cg b most p og s RES w (8 * b.length + 1) 0 p w) := ⟨s, og, vo, Nat.le_refl _, h, Went.refl _ _, Fr.refl _ _, hmd, rfl, rfl, rfl, .inr ⟨rfl, by omega, hRES⟩⟩
  have HE : Hid (∀ V r k er p', er ≠ 0 → SymI sb ga cg b most p og s RES w k er p' V → P (.returned r) V) := fun V r k er p' he hh => by
    obtain ⟨s', og', vo', h1, h2, h3, h4, h5, h6, h7, h8, h9⟩ := hh
    rw [hP]
    refine ⟨⟨_, rfl⟩, p', er, og', vo', s'.out, h1, h2, h3, h4, .inl ?_⟩
    rcases h9 with h9 | ⟨h9, _⟩
    · exact h9
    · exact absurd h9 he
  have HP : Hid (P = SlA sb ga cg b most p og s.lst RES w) := hP
  have HA : Hid (∀ V, Fr (fun k => k = sb ∨ og = some k) w V → SlR RI (fun k => V.heap.size ≤ k) va (toI s.la) V) := fun V hV => (ha.kept hV (fun g hg => .inr hg)).mono (fun g hg => .inl (Nat.le_trans hV.size hg))
  have HD : Hid (∀ V, Fr (fun k => k = sb ∨ og = some k) w V → SlR RI (fun k => V.heap.size ≤ k ∨ k = sb) vd (toI s.lb) V) := fun V hV => (hd.kept hV (fun g hg => .inr hg)).mono (fun g hg => by
    rcases hg with hg | hg
    · exact .inl (Nat.le_trans hV.size hg)
    · exact .inr (.inl hg))
  have HK : Hid (Cod s.la ∧ (∀ i, s.lb.getD i 0 ≤ 15) ∧ s.lb.length ≤ 320 ∧ (sumL s.lb = 0 ∨ Cod s.lb)) := ⟨hka, h15, hl, hk⟩
  obtain ⟨av, cv, rfl, _⟩ := ha.form
  obtain ⟨ad, cd, rfl, _⟩ := hd.form
  rw [toI_length] at *
  rw [toI_length] at *
  clear hP h ha hd hka h15 hl hk hRES hmd
  generalize hLA : s.la.length = LA at *
  clear hLA
  generalize hLB : s.lb.length = LB at HD ⊢
  clear hLB
  go_enter Tryd.func38, Tryd.ntmps38
  go_wp2_with fail
  go_loopg [] (8 * b.length + 1) (fun kx wr => ∃ er p', Hid (SymI sb ga cg b most p og s RES w kx er p' wr))
  case atStart => exact ⟨0, p, HI0⟩
  case round =>
    clear HI0
    obtain ⟨er, p', HI⟩ := hrel
    obtain ⟨s', og', vo', h1, h2, h3, h4, h5, h6, h7, h8, h9⟩ := HI.out
    obtain ⟨x4, y4⟩ := ds4 h2
    by_cases he : er = 0
    · subst he
      obtain ⟨hkk, hRES⟩ : 8 * b.length - p' + 1 ≤ gk ∧ RES = run most s' (bt b p') := by
        rcases h9 with ⟨h, _⟩ | ⟨_, h, h'⟩
        · exact absurd rfl h
        · exact ⟨h, h'⟩
      clear h9 HI HE
      have hm3 : s'.md ≠ 3 := by omega
      have HSY : Hid (Calls Tryd.prog 48 #[.pointer (some ⟨sb, 0, none⟩), .slice av LA cv] wr (SyA sb ga cg b most p' og' vo' s'.out wr s'.la (symbolR most s' (bt b p')) (fun y => if y < 256 then (if most - s'.out.length < 1 then failR 32 else retR { s' with out := s'.out ++ [BitVec.ofNat 8 y] }) else if y = 256 then endB s' else mtR most s' y))) := hsymbol_any h2 _ (by rw [h6]; exact HA.out wr h4) (fun _ => by rw [h6]; exact HK.out.1) _ _ (.inr ⟨rfl, rfl⟩)
      -- from here on
      have HGO : Hid (∀ y p2 er2 w2, y ≤ 320 → p' ≤ p2 → DsI sb ga cg b most p2 og' vo' s'.out er2 w2 → Fr (fun k => k = sb) wr w2 → Cn b (symbolR most s' (bt b p')) er2 p2 (if y < 256 then (if most - s'.out.length < 1 then failR 32 else retR { s' with out := s'.out ++ [BitVec.ofNat 8 y] }) else if y = 256 then endB s' else mtR most s' y) → (er2 = 0 → y < s'.la.length ∧ p' < p2) →
          (er2 ≠ 0 → SymI sb ga cg b most p og s RES w (gk - 1) er2 p2 w2) ∧
          (er2 = 0 → y < 256 → Calls Tryd.prog 47 #[.pointer (some ⟨sb, 0, none⟩), .slice (some ⟨w2.heap.size, 0, none⟩) 1 1] (w2.alloc (.cells #[.int .u8 y] 5)) fun e w3 => (∃ r, e = .returned r) ∧ Hid (∃ er3 p3, SymI sb ga cg b most p og s RES w (gk - 1) er3 p3 w3)) ∧
          (er2 = 0 → y = 256 → ∀ r, P (.returned r) w2) ∧
          (er2 = 0 → 256 < y → Calls Tryd.prog 49 #[.pointer (some ⟨sb, 0, none⟩), .int .i64 y, .slice ad LB cd] w2 fun e w3 => (∃ r, e = .returned r) ∧ Hid (∃ er3 p3, SymI sb ga cg b most p og s RES w (gk - 1) er3 p3 w3))) := by
        intro y p2 er2 w2 hy hp2 d2 fr2 cn2 hlt2
        have hst : stepR most s' (bt b p') = symbolR most s' (bt b p') := step_sym h5 _
        have h4' : Fr (fun k => k = sb ∨ og = some k) w w2 := h4.trans (fr2.mono (fun i hi => .inl (.inl hi)))
        have hpl := d2.pl
        refine ⟨fun he2 => ?_, fun he2 hy2 => ?_, fun he2 hy2 r => ?_, fun he2 hy2 => ?_⟩
        · have hR := cn2.bad he2
          rw [← hst] at hR
          obtain ⟨k1, k2⟩ := run_err hm3 hR
          rw [← hRES] at k1 k2
          exact ⟨s', og', vo', by omega, d2, h3, h4', h5, h6, h7, h8, .inl ⟨he2, k1, k2⟩⟩
        · subst he2
          obtain ⟨hy3, hp3⟩ := hlt2 rfl
          have hR := cn2.good
          rw [if_pos hy2] at hR
          have hN : Nw w2 (w2.alloc (.cells #[.int .u8 (y : Int)] 5)) := (Fr.refl _ _).alloc _
          refine (hput_any (d2.nw hN) w2.heap.size (BitVec.ofNat 8 y) (one_byte' w2 _ (y : Int) (by simp; omega))).mono ?_
          rintro e w3 ⟨hr, hh⟩
          refine ⟨hr, ?_⟩
          rcases hh.out with ⟨q1, q2, q3⟩ | ⟨q1, og3, vo3, q2, q3, q4⟩
          · rw [if_pos q1] at hR
            rw [← hst] at hR
            obtain ⟨k1, k2⟩ := run_err hm3 hR
            rw [← hRES] at k1 k2
            exact ⟨32, p2, s', og', vo', by omega, q2, h3, (h4'.trans hN.any).trans (q3.mono (fun i hi => .inl (.inl hi))), h5, h6, h7, h8, .inl ⟨by decide, k1, k2⟩⟩
          · rw [if_neg q1] at hR
            rw [← hst] at hR
            have hR' : stepR most s' (bt b p') = .ok ({ s' with out := s'.out ++ [BitVec.ofNat 8 y] }, bt b p2) := hR
            refine ⟨0, p2, { s' with out := s'.out ++ [BitVec.ofNat 8 y] }, og3, vo3, by omega, q2, h3.trans q3 (h4'.trans hN.any).size, (h4'.trans hN.any).went (X := fun _ => True) h3 q4, h5, h6, h7, h8, .inr ⟨rfl, by omega, by rw [hRES]; exact run_ok hm3 hR'⟩⟩
        · subst he2
          obtain ⟨hy3, hp3⟩ := hlt2 rfl
          have hR := cn2.good
          rw [if_neg (by omega), if_pos hy2, ← hst] at hR
          have hB := blk_end hm3 hR
          rw [← hRES, h8] at hB
          rw [HP.out]
          exact ⟨⟨_, rfl⟩, p2, 0, og', vo', s'.out, by omega, d2, h3, h4', .inr ⟨rfl, hB⟩⟩
        · subst he2
          obtain ⟨hy3, hp3⟩ := hlt2 rfl
          have hR := cn2.good
          rw [if_neg (by omega), if_neg (by omega)] at hR
          obtain ⟨q1, q2, q3, q4⟩ := HK.out
          refine (hmatch_any s' d2 y hy2 hy _ (by rw [h7]; exact HD.out w2 h4') (by rw [h7]; exact q2) (by rw [h7]; exact q3) (by rw [h7]; exact q4) _ hR).mono ?_
          rintro e w3 ⟨hr, hh⟩
          refine ⟨hr, ?_⟩
          obtain ⟨p3, er3, og3, vo3, out3, e1, e2, e3, e4, e5⟩ := hh.out
          have hpl3 := e2.pl
          rcases e5 with ⟨z1, z2, z3⟩ | ⟨z1, z2⟩
          · rw [← hst] at z2
            obtain ⟨k1, k2⟩ := run_err hm3 z2
            rw [← hRES] at k1 k2
            subst z3
            exact ⟨er3, p3, s', og3, vo3, by omega, e2, h3.trans e3 h4'.size, h4'.went (X := fun _ => True) h3 e4, h5, h6, h7, h8, .inl ⟨z1, k1, k2⟩⟩
          · rw [← hst] at z2
            subst z1
            exact ⟨0, p3, { s' with out := out3 }, og3, vo3, by omega, e2, h3.trans e3 h4'.size, h4'.went (X := fun _ => True) h3 e4, h5, h6, h7, h8, .inr ⟨rfl, by omega, by rw [hRES]; exact run_ok hm3 z2⟩⟩
      have hg1 : gk - 1 < gk := by omega
      clear HP HA HD HK h1 h2 h3 h4 h5 h6 h7 h8 hkk hRES hm3
      generalize gk - 1 = gk1 at *
      go_upto_region 3 with (first | (go_at_call 48; (with_reducible refine HSY.out.mono ?_); unfold SyA; rintro e w2 ⟨y, p2, er2, rfl, hy, hp2, H2⟩))
      obtain ⟨d2, fr2, cn2, hlt2, _⟩ := H2.out
      obtain ⟨j1, j2, j3, j4⟩ := HGO.out y p2 er2 w2 hy hp2 d2 fr2 cn2 hlt2
      obtain ⟨x4, y4⟩ := ds4 d2
      clear H2 HSY HGO d2 fr2 cn2 hlt2
      by_cases he2 : er2 = 0
      · subst he2
        by_cases hy1 : y < 256
        · have J2 : Hid (Calls Tryd.prog 47 #[.pointer (some ⟨sb, 0, none⟩), .slice (some ⟨w2.heap.size, 0, none⟩) 1 1] (w2.alloc (.cells #[.int .u8 y] 5)) fun e w3 => (∃ r, e = .returned r) ∧ Hid (∃ er3 p3, SymI sb ga cg b most p og s RES w gk1 er3 p3 w3)) := j2 rfl hy1
          have hz1 : (y : Int) < 256 := by omega
          have hwy : IntKind.u8.wrap (y : Int) = (y : Int) := by rw [IntKind.wrap_u8]; omega
          clear j1 j2 j3 j4
          go_wp2_with (first | (go_at_call 47; (with_reducible refine J2.out.mono ?_); rintro e w3 ⟨⟨r, rfl⟩, H3⟩))
          go_roundg gk1
          case measure => exact hg1
          case rel => obtain ⟨er3, p3, h3⟩ := H3.out; exact ⟨er3, p3, h3⟩
        · have hz1 : ¬ (y : Int) < 256 := by omega
          by_cases hy2 : y = 256
          · have J3 : Hid (∀ r, P (.returned r) w2) := j3 rfl hy2
            subst hy2
            clear j1 j2 j3 j4
            go_wp2_with fail
            go_end0
            exact J3.out _
          · have J4 : Hid (Calls Tryd.prog 49 #[.pointer (some ⟨sb, 0, none⟩), .int .i64 y, .slice ad LB cd] w2 fun e w3 => (∃ r, e = .returned r) ∧ Hid (∃ er3 p3, SymI sb ga cg b most p og s RES w gk1 er3 p3 w3)) := j4 rfl (by omega)
            have hz2 : ((y : Int) == 256) = false := by simp only [beq_eq_false_iff_ne, ne_eq]; omega
            clear j1 j2 j3 j4 hy2
            go_wp2_with (first | (go_at_call 49; (with_reducible refine J4.out.mono ?_); rintro e w3 ⟨⟨r, rfl⟩, H3⟩))
            go_roundg gk1
            case measure => exact hg1
            case rel => obtain ⟨er3, p3, h3⟩ := H3.out; exact ⟨er3, p3, h3⟩
      · have J1 : Hid (SymI sb ga cg b most p og s RES w gk1 er2 p2 w2) := j1 he2
        have hz := ne0' he2
        have hz2 := ne0 he2
        clear j1 j2 j3 j4
        go_wp2_with fail
        go_roundg gk1
        case measure => exact hg1
        case rel => exact ⟨er2, p2, J1⟩
    · have HF : Hid (∀ r, P (.returned r) wr) := fun r => HE.out _ _ _ _ _ he HI.out
      have hz := ne0' he
      have hz2 := ne0 he
      clear HI HE h2 h3 h4 h9 HP
      go_wp2_with fail
      go_end0
      exact HF.out _
end Go.Proofs.YtincbbnppcpfpaaDoor

namespace Go.Proofs.YtincbbnppcpfpaaDoor
open Go.RowKit
set_option linter.unusedVariables false
variable {sb ga cg most p er : Nat} {b out : List By} {og : Option Nat} {vo : Value} {w : World} {ls : List Nat}
theorem step_byte {s : Sx} (h : s.md = 1) (t : Bt) : stepR most s t = byteR s t := by
  unfold stepR
  rw [if_neg (by omega), if_pos h]
/-- How the loop over stored bytes stands. -/
def StbI (sb ga cg : Nat) (b : List By) (most p : Nat) (og : Option Nat) (lst : Bool) (RES : Sx × Bt × Nat) (w : World) (n I er : Nat) (wr : World) : Prop :=
  ∃ p' og' vo' out, p ≤ p' ∧ DsI sb ga cg b most p' og' vo' out er wr ∧ Went og og' w ∧ Fr (fun k => k = sb ∨ og = some k) w wr ∧ ((er ≠ 0 ∧ RES.2.2 = er ∧ RES.1.out = out) ∨ (er = 0 ∧ ((I < n ∧ out.length + (n - I) ≤ most ∧ ∃ s', s'.md = 1 ∧ s'.sto = n - I ∧ s'.lst = lst ∧ s'.out = out ∧ RES = run most s' (bt b p')) ∨ (n ≤ I ∧ BlkE b most RES lst out p'))))
theorem StbI.done {lst : Bool} {RES : Sx × Bt × Nat} {n I : Nat} {wr : World} (h : StbI sb ga cg b most p og lst RES w n I er wr) (he : er ≠ 0 ∨ n ≤ I) (v : Value) : SlA sb ga cg b most p og lst RES w (.returned v) wr := by
  obtain ⟨p', og', vo', out, h1, h2, h3, h4, h5⟩ := h
  refine ⟨⟨_, rfl⟩, p', er, og', vo', out, h1, h2, h3, h4, ?_⟩
  rcases h5 with h5 | ⟨h5, h6⟩
  · exact .inl h5
  · rcases h6 with ⟨h6, _⟩ | ⟨_, h6⟩
    · rcases he with he | he
      · exact absurd h5 he
      · omega
    · exact .inr ⟨h5, h6⟩
/-- One stored byte: bits, then put. -/
theorem StbI.byte {lst : Bool} {RES : Sx × Bt × Nat} {n I : Nat} {wr : World} (h : StbI sb ga cg b most p og lst RES w n I 0 wr) (hI : I < n) :
    Calls Tryd.prog 36 #[.pointer (some ⟨sb, 0, none⟩), .int .i64 8] wr fun e w1 => ∃ x : Nat, e = .returned (.int .i64 x) ∧ x < 256 ∧ Hid (Calls Tryd.prog 47 #[.pointer (some ⟨sb, 0, none⟩), .slice (some ⟨w1.heap.size, 0, none⟩) 1 1] (w1.alloc (.cells #[.int .u8 x] 5)) fun e w2 => (∃ r, e = .returned r) ∧ Hid (∃ er', w2.cell? ⟨sb, 4, none⟩ = some (.int .i64 (er' : Nat)) ∧ StbI sb ga cg b most p og lst RES w n (I + 1) er' w2)) := by
  obtain ⟨p', og', vo', out, h1, h2, h3, h4, h5⟩ := h
  obtain ⟨hm, s', s1, s2, s3, s4, s5⟩ : out.length + (n - I) ≤ most ∧ ∃ s', s'.md = 1 ∧ s'.sto = n - I ∧ s'.lst = lst ∧ s'.out = out ∧ RES = run most s' (bt b p') := by
    rcases h5 with ⟨h, _⟩ | ⟨_, h6⟩
    · exact absurd rfl h
    · rcases h6 with ⟨_, h6⟩ | ⟨h6, _⟩
      · exact h6
      · omega
  clear h5
  have hm3 : s'.md ≠ 3 := by omega
  have hst : stepR most s' (bt b p') = byteR s' (bt b p') := step_byte s1 _
  subst s4
  refine (hbits_any h2 8 (by omega) (byteR s' (bt b p')) _ (.inr ⟨rfl, rfl⟩)).mono ?_
  rintro e w1 ⟨x, p1, er1, rfl, hx, hp1, H1⟩
  obtain ⟨d1, fr1, cn1⟩ := H1.out
  have h4' : Fr (fun k => k = sb ∨ og = some k) w w1 := h4.trans (fr1.mono (fun i hi => .inl (.inl hi)))
  refine ⟨x, rfl, hx, ?_⟩
  have hN : Nw w1 (w1.alloc (.cells #[.int .u8 (x : Int)] 5)) := (Fr.refl _ _).alloc _
  have d1' := d1.nw hN
  show Calls _ _ _ _ _
  by_cases he : er1 = 0
  · subst he
    have hR := cn1.good
    dsimp only at hR
    refine (hput_any d1' w1.heap.size (BitVec.ofNat 8 x) (one_byte' w1 _ (x : Int) (by simp; omega))).mono ?_
    rintro e w2 ⟨hr, hh⟩
    refine ⟨hr, ?_⟩
    rcases hh.out with ⟨q1, _⟩ | ⟨q1, og3, vo3, q2, q3, q4⟩
    · omega
    · refine ⟨0, (ds4 q2).1, p1, og3, vo3, _, by omega, q2, h3.trans q3 (h4'.trans hN.any).size, (h4'.trans hN.any).went (X := fun _ => True) h3 q4, .inr ⟨rfl, ?_⟩⟩
      rw [← hst] at hR
      by_cases hl : I + 1 < n
      · rw [if_neg (by omega)] at hR
        have hR' : stepR most s' (bt b p') = .ok ({ s' with sto := s'.sto - 1, out := s'.out ++ [BitVec.ofNat 8 x] }, bt b p1) := hR
        refine .inl ⟨hl, by simp; omega, { s' with sto := s'.sto - 1, out := s'.out ++ [BitVec.ofNat 8 x] }, s1, by simp only; omega, s3, rfl, ?_⟩
        rw [s5]; exact run_ok hm3 hR'
      · rw [if_pos (by omega)] at hR
        have hB := blk_end hm3 hR
        rw [← s5] at hB
        refine .inr ⟨by omega, ?_⟩
        rw [← s3]; exact hB
  · have hR := cn1.bad he
    rw [← hst] at hR
    obtain ⟨k1, k2⟩ := run_err hm3 hR
    rw [← s5] at k1 k2
    refine (hput_err d1' he _ _ _).mono ?_
    rintro e w2 ⟨hr, rfl⟩
    exact ⟨hr, er1, (ds4 d1').1, p1, og', vo', s'.out, by omega, d1', h3, h4'.trans hN.any, .inl ⟨he, k1, k2⟩⟩
set_option maxHeartbeats 64000000 in
set_option maxRecDepth 100000 in
theorem hstored_any (s0 s : Sx) (t0 : Bt) (hm0 : s0.md ≠ 3) (ho0 : s0.out = s.out) (h : DsI sb ga cg b most p og vo s.out 0 w) (hst : stepR most s0 t0 = storedR most s (bt b p)) :
    Calls Tryd.prog 37 #[.pointer (some ⟨sb, 0, none⟩)] w (SlA sb ga cg b most p og s.lst (run most s0 t0) w) := by
  obtain ⟨RES, hRES⟩ : ∃ RES, RES = run most s0 t0 := ⟨_, rfl⟩
  rw [← hRES]
  obtain ⟨P, hP⟩ : ∃ P, P = SlA sb ga cg b most p og s.lst RES w := ⟨_, rfl⟩
  rw [← hP]
  have HP : Hid (P = SlA sb ga cg b most p og s.lst RES w) := hP
  obtain ⟨al1, al2⟩ := alignR_bt b p h.pl
  have hpl := h.pl
  have hup : p ≤ up8 p ∧ up8 p < p + 8 ∧ up8 p % 8 = 0 ∧ up8 p ≤ 8 * b.length := by unfold up8; omega
  rw [storedR, bindR_eq al1] at hst
  have hb41 := h.hb
  have hml := h.ml
  have HEE : Hid (∀ n V r I er, er ≠ 0 ∨ n ≤ I → StbI sb ga cg b most p og s.lst RES w n I er V → P (.returned r) V) := fun n V r I er h1 h2 => by rw [hP]; exact h2.done h1 _
  obtain ⟨U, hU⟩ : ∃ U, U = up8 p := ⟨_, rfl⟩
  rw [← hU] at hup hst
  have HB1 : Hid (∀ V, DsI sb ga cg b most U og vo s.out 0 V → Fr (fun k => k = sb) w V → Calls Tryd.prog 36 #[.pointer (some ⟨sb, 0, none⟩), .int .i64 16] V fun e w1 => ∃ n : Nat, e = .returned (.int .i64 n) ∧ n < 65536 ∧ Hid (Calls Tryd.prog 36 #[.pointer (some ⟨sb, 0, none⟩), .int .i64 16] w1 fun e w2 => ∃ m p2 er2 : Nat, e = .returned (.int .i64 m) ∧ m < 65536 ∧ p ≤ p2 ∧ Hid (DsI sb ga cg b most p2 og vo s.out er2 w2 ∧ Fr (fun k => k = sb) w w2 ∧ Cn b (stepR most s0 t0) er2 p2 (if n + m ≠ 65535 then failR 61 else if most - s.out.length < n then failR 32 else if n = 0 then endB { s with md := 1, sto := 0 } else retR { s with md := 1, sto := n })))) := fun V hV hf => by
    refine (hbits_any hV 16 (by omega) (stepR most s0 t0) _ (.inr ⟨rfl, hst⟩)).mono ?_
    rintro e w1 ⟨n, p1, er1, rfl, hn, hp1, H1⟩
    obtain ⟨d1, fr1, cn1⟩ := H1.out
    refine ⟨n, rfl, hn, ?_⟩
    show Calls _ _ _ _ _
    by_cases he : er1 = 0
    · subst he
      refine (hbits_any d1 16 (by omega) (stepR most s0 t0) _ cn1).mono ?_
      rintro e w2 ⟨m, p2, er2, rfl, hm, hp2, H2⟩
      obtain ⟨d2, fr2, cn2⟩ := H2.out
      exact ⟨m, p2, er2, rfl, hm, by omega, d2, (hf.trans fr1).trans fr2, cn2⟩
    · refine (hbits_err d1 he 16).mono ?_
      rintro e w2 ⟨rfl, rfl⟩
      exact ⟨0, p1, er1, rfl, by omega, by omega, d1, hf.trans fr1, .inl ⟨he, cn1.bad he⟩⟩
  have HI0 : Hid (DsI sb ga cg b most p og vo s.out 0 w ∧ Fr (fun k => k = sb) w w) := ⟨h, Fr.refl _ _⟩
  have HBAD : Hid (∀ n V p' er', p ≤ p' → er' ≠ 0 → stepR most s0 t0 = .bad er' → DsI sb ga cg b most p' og vo s.out er' V → Fr (fun k => k = sb) w V → StbI sb ga cg b most p og s.lst RES w n 0 er' V) := fun n V p' er' h1 h2 h3 h4 h5 => by
    obtain ⟨k1, k2⟩ := run_err hm0 h3
    rw [← hRES] at k1 k2
    exact ⟨p', og, vo, s.out, h1, h4, Went.refl _ _, h5.mono (fun i hi => .inl (.inl hi)), .inl ⟨h2, k1, by rw [k2, ho0]⟩⟩
  have HOK : Hid (∀ n V p', p ≤ p' → stepR most s0 t0 = (if n = 0 then endB { s with md := 1, sto := 0 } else retR { s with md := 1, sto := n }) (bt b p') → ¬ most - s.out.length < n → DsI sb ga cg b most p' og vo s.out 0 V → Fr (fun k => k = sb) w V → StbI sb ga cg b most p og s.lst RES w n 0 0 V) := fun n V p' h1 h2 h3 h4 h5 => by
    have hol := h4.ol
    refine ⟨p', og, vo, s.out, h1, h4, Went.refl _ _, h5.mono (fun i hi => .inl (.inl hi)), .inr ⟨rfl, ?_⟩⟩
    by_cases h0 : n = 0
    · rw [if_pos h0] at h2
      have hB := blk_end hm0 h2
      rw [← hRES] at hB
      exact .inr ⟨by omega, hB⟩
    · rw [if_neg h0] at h2
      have h2' : stepR most s0 t0 = .ok ({ s with md := 1, sto := n }, bt b p') := h2
      exact .inl ⟨by omega, by omega, { s with md := 1, sto := n }, rfl, by simp, rfl, rfl, by rw [hRES]; exact run_ok hm0 h2'⟩
  clear hP h hst al1 al2 hm0 ho0 hRES hU HP
  go_enter Tryd.func37, Tryd.ntmps37
  go_wp2_with fail
  go_loopg [] 8 (fun kx wr => ∃ q, p ≤ q ∧ q ≤ U ∧ U - q ≤ kx ∧ Hid (DsI sb ga cg b most q og vo s.out 0 wr ∧ Fr (fun k => k = sb) w wr))
  case atStart => exact ⟨p, by omega, by omega, by omega, HI0⟩
  case round =>
    clear HI0
    obtain ⟨q, hq1, hq2, hkx, HI⟩ := hrel
    obtain ⟨d0, fr0⟩ := HI.out
    obtain ⟨x1, y1⟩ := ds1 d0
    obtain ⟨r, hr⟩ : ∃ r, r = q % 8 := ⟨_, rfl⟩
    have hri : (q : Int).tmod 8 = (r : Int) := by rw [Int.tmod_eq_emod_of_nonneg (by omega)]; omega
    by_cases hlt : q < U
    · have hr0 : r ≠ 0 := by omega
      have hrz := ne0 hr0
      obtain ⟨k1, k2⟩ := d0.setP (q + 1) (by omega) ((q : Int) + 1) (by omega)
      have HN : Hid (DsI sb ga cg b most (q + 1) og vo s.out 0 (wr.setCell ⟨sb, 1, none⟩ (.int .i64 ((q : Int) + 1))) ∧ Fr (fun k => k = sb) w (wr.setCell ⟨sb, 1, none⟩ (.int .i64 ((q : Int) + 1)))) := ⟨k1, fr0.trans k2⟩
      clear HB1 HBAD HOK HEE d0 fr0 HI k1 k2 hr
      go_wp2_with fail
      go_roundg (U - (q + 1))
      case measure => omega
      case rel => exact ⟨q + 1, by omega, by omega, by omega, HN⟩
    · have hr0 : r = 0 := by omega
      have hqU : q = U := by omega
      subst hr0
      have HB : Hid (Calls Tryd.prog 36 #[.pointer (some ⟨sb, 0, none⟩), .int .i64 16] wr fun e w1 => ∃ n : Nat, e = .returned (.int .i64 n) ∧ n < 65536 ∧ Hid (Calls Tryd.prog 36 #[.pointer (some ⟨sb, 0, none⟩), .int .i64 16] w1 fun e w2 => ∃ m p2 er2 : Nat, e = .returned (.int .i64 m) ∧ m < 65536 ∧ p ≤ p2 ∧ Hid (DsI sb ga cg b most p2 og vo s.out er2 w2 ∧ Fr (fun k => k = sb) w w2 ∧ Cn b (stepR most s0 t0) er2 p2 (if n + m ≠ 65535 then failR 61 else if most - s.out.length < n then failR 32 else if n = 0 then endB { s with md := 1, sto := 0 } else retR { s with md := 1, sto := n })))) := HB1.out wr (by rw [← hqU]; exact d0) fr0
      clear HB1 d0 fr0 HI hqU hr
      go_upto_region 3 with (first | (go_at_call 36; (with_reducible refine HB.out.mono ?_); rintro e w1 ⟨n, rfl, hn, H1⟩) | (go_at_call 36; (with_reducible refine H1.out.mono ?_); rintro e w2 ⟨m, p2, er2, rfl, hm, hp2, H2⟩))
      have HE : Hid (∀ V r I er, er ≠ 0 ∨ n ≤ I → StbI sb ga cg b most p og s.lst RES w n I er V → P (.returned r) V) := fun V r I er => HEE.out n V r I er
      obtain ⟨d2, fr2, cn2⟩ := H2.out
      clear HB H1 H2 HEE
      obtain ⟨x4, y4⟩ := ds4 d2
      obtain ⟨o2, u2⟩ := ds2 d2
      obtain ⟨o3, u3⟩ := ds3 d2
      obtain ⟨av, cv, rfl, hcv1, hcv2⟩ := d2.ho.form
      have hol := d2.ol
      by_cases he2 : er2 = 0
      · subst he2
        have hR := cn2.good
        by_cases hs : n + m = 65535
        · rw [if_neg (by omega)] at hR
          have hsz : (((n : Int) + (m : Int)) != 65535) = false := by simp only [bne_eq_false_iff_eq]; omega
          obtain ⟨qq, hqq⟩ : ∃ qq, qq = most - s.out.length := ⟨_, rfl⟩
          have hqi : (most : Int) - (s.out.length : Int) = (qq : Int) := by omega
          by_cases hf : qq < n
          · rw [if_pos (by omega)] at hR
            have HST : Hid (∀ V, Nw w2 V → (V.setCell ⟨sb, 4, none⟩ (.int .i64 32)).cell? ⟨sb, 4, none⟩ = some (.int .i64 (32 : Nat)) ∧ StbI sb ga cg b most p og s.lst RES w n 0 32 (V.setCell ⟨sb, 4, none⟩ (.int .i64 32))) := fun V hV => by
              obtain ⟨k1, k2⟩ := (d2.nw hV).setE 32 32 rfl
              exact ⟨(ds4 k1).1, HBAD.out n _ p2 32 hp2 (by decide) (by rw [hR]; rfl) k1 ((fr2.trans hV.any).trans k2)⟩
            have hfz : decide ((qq : Int) < (n : Int)) = true := decide_eq_true (by omega)
            have hfz' : (qq : Int) < (n : Int) := by omega
            clear hR cn2 d2 fr2 HBAD HOK hqq hs
            generalize s.out.length = OL at *
            go_upto_region 5 with fail
            go_quiet (fail)
            obtain ⟨z4, HI0⟩ := HST.out (w2.drewN nq) ((Fr.refl _ _).drewN _)
            have HI0 : Hid (StbI sb ga cg b most p og s.lst RES w n 0 32 ((w2.drewN nq).setCell ⟨sb, 4, none⟩ (.int .i64 32))) := HI0
            clear HST
            go_upto_region 7 with fail
            generalize (w2.drewN nq).setCell ⟨sb, 4, none⟩ (.int .i64 32) = W5 at *
            have HIW : Hid (StbI sb ga cg b most p og s.lst RES w n 0 32 W5) := HI0
            clear HI0
            go_wp2_with fail
            go_loopg [4] n (fun kx i wr => ∃ (I er : Nat), I ≤ n ∧ n - I ≤ kx ∧ i = .int .i64 I ∧ wr.cell? ⟨sb, 4, none⟩ = some (.int .i64 (er : Nat)) ∧ Hid (StbI sb ga cg b most p og s.lst RES w n I er wr))
            case atStart => exact ⟨0, 32, by omega, by omega, rfl, z4, HIW⟩
            case round =>
              clear HIW
              obtain ⟨I, er, hI, hkx, rfl, x4, HI⟩ := hrel
              by_cases hlt : I < n
              · have hz1 : (I : Int) < (n : Int) := by omega
                by_cases her : er = 0
                · subst her
                  have HB8 : Hid (Calls Tryd.prog 36 #[.pointer (some ⟨sb, 0, none⟩), .int .i64 8] wr fun e w1 => ∃ x : Nat, e = .returned (.int .i64 x) ∧ x < 256 ∧ Hid (Calls Tryd.prog 47 #[.pointer (some ⟨sb, 0, none⟩), .slice (some ⟨w1.heap.size, 0, none⟩) 1 1] (w1.alloc (.cells #[.int .u8 x] 5)) fun e w2 => (∃ r, e = .returned r) ∧ Hid (∃ er', w2.cell? ⟨sb, 4, none⟩ = some (.int .i64 (er' : Nat)) ∧ StbI sb ga cg b most p og s.lst RES w n (I + 1) er' w2))) := HI.out.byte hlt
                  clear HI HE
                  go_upto_region 11 with (first | (go_at_call 36; (with_reducible refine HB8.out.mono ?_); rintro e w1 ⟨x, rfl, hx, H1⟩))
                  have hwx : IntKind.u8.wrap (x : Int) = (x : Int) := by rw [IntKind.wrap_u8]; omega
                  go_wp2_with (first | (go_at_call 47; (with_reducible refine H1.out.mono ?_); rintro e w2 ⟨⟨r, rfl⟩, H2⟩))
                  go_roundg (n - (I + 1))
                  case measure => omega
                  case rel => obtain ⟨er', z1, z2⟩ := H2.out; exact ⟨I + 1, er', by omega, by omega, by first | rfl | (congr 1), z1, z2⟩
                · have HF : Hid (∀ r, P (.returned r) wr) := fun r => HE.out _ _ _ _ (.inl her) HI.out
                  have hz := ne0' her
                  have hz2 := ne0 her
                  clear HI HE
                  go_wp2_with fail
                  go_end0
                  exact HF.out _
              · have HF : Hid (∀ r, P (.returned r) wr) := fun r => HE.out _ _ _ _ (.inr (by omega)) HI.out
                have hz1 : ¬ (I : Int) < (n : Int) := by omega
                clear HI HE
                go_wp2_with fail
                go_end0
                exact HF.out _
          · rw [if_neg (by omega)] at hR
            have HST : Hid (∀ V, Nw w2 V → V.cell? ⟨sb, 4, none⟩ = some (.int .i64 (0 : Nat)) ∧ StbI sb ga cg b most p og s.lst RES w n 0 0 V) := fun V hV =>
              ⟨(ds4 (d2.nw hV)).1, HOK.out n _ p2 hp2 hR (by omega) (d2.nw hV) (fr2.trans hV.any)⟩
            have hfz : decide ((qq : Int) < (n : Int)) = false := decide_eq_false (by omega)
            have hfz' : ¬ (qq : Int) < (n : Int) := by omega
            clear hR cn2 d2 fr2 HBAD HOK hqq hs
            generalize s.out.length = OL at *
            go_upto_region 5 with fail
            go_quiet (fail)
            obtain ⟨z4, HI0⟩ := HST.out (w2.drewN nq) ((Fr.refl _ _).drewN _)
            have HI0 : Hid (StbI sb ga cg b most p og s.lst RES w n 0 0 (w2.drewN nq)) := HI0
            clear HST x4 y4 o2 u2 o3 u3
            generalize w2.drewN nq = W5 at *
            have HIW : Hid (StbI sb ga cg b most p og s.lst RES w n 0 0 W5) := HI0
            clear HI0
            go_wp2_with fail
            go_loopg [4] n (fun kx i wr => ∃ (I er : Nat), I ≤ n ∧ n - I ≤ kx ∧ i = .int .i64 I ∧ wr.cell? ⟨sb, 4, none⟩ = some (.int .i64 (er : Nat)) ∧ Hid (StbI sb ga cg b most p og s.lst RES w n I er wr))
            case atStart => exact ⟨0, 0, by omega, by omega, rfl, z4, HIW⟩
            case round =>
              clear HIW
              obtain ⟨I, er, hI, hkx, rfl, x4, HI⟩ := hrel
              by_cases hlt : I < n
              · have hz1 : (I : Int) < (n : Int) := by omega
                by_cases her : er = 0
                · subst her
                  have HB8 : Hid (Calls Tryd.prog 36 #[.pointer (some ⟨sb, 0, none⟩), .int .i64 8] wr fun e w1 => ∃ x : Nat, e = .returned (.int .i64 x) ∧ x < 256 ∧ Hid (Calls Tryd.prog 47 #[.pointer (some ⟨sb, 0, none⟩), .slice (some ⟨w1.heap.size, 0, none⟩) 1 1] (w1.alloc (.cells #[.int .u8 x] 5)) fun e w2 => (∃ r, e = .returned r) ∧ Hid (∃ er', w2.cell? ⟨sb, 4, none⟩ = some (.int .i64 (er' : Nat)) ∧ StbI sb ga cg b most p og s.lst RES w n (I + 1) er' w2))) := HI.out.byte hlt
                  clear HI HE
                  go_upto_region 11 with (first | (go_at_call 36; (with_reducible refine HB8.out.mono ?_); rintro e w1 ⟨x, rfl, hx, H1⟩))
                  have hwx : IntKind.u8.wrap (x : Int) = (x : Int) := by rw [IntKind.wrap_u8]; omega
                  go_wp2_with (first | (go_at_call 47; (with_reducible refine H1.out.mono ?_); rintro e w2 ⟨⟨r, rfl⟩, H2⟩))
                  go_roundg (n - (I + 1))
                  case measure => omega
                  case rel => obtain ⟨er', z1, z2⟩ := H2.out; exact ⟨I + 1, er', by omega, by omega, by first | rfl | (congr 1), z1, z2⟩
                · have HF : Hid (∀ r, P (.returned r) wr) := fun r => HE.out _ _ _ _ (.inl her) HI.out
                  have hz := ne0' her
                  have hz2 := ne0 her
                  clear HI HE
                  go_wp2_with fail
                  go_end0
                  exact HF.out _
              · have HF : Hid (∀ r, P (.returned r) wr) := fun r => HE.out _ _ _ _ (.inr (by omega)) HI.out
                have hz1 : ¬ (I : Int) < (n : Int) := by omega
                clear HI HE
                go_wp2_with fail
                go_end0
                exact HF.out _
        · rw [if_pos (by omega)] at hR
          have hsz : (((n : Int) + (m : Int)) != 65535) = true := by simp only [bne_iff_ne, ne_eq]; omega
          have HST : Hid (∀ V, Nw (w2.setCell ⟨sb, 4, none⟩ (.int .i64 61)) V → V.cell? ⟨sb, 4, none⟩ = some (.int .i64 (61 : Nat)) ∧ StbI sb ga cg b most p og s.lst RES w n 0 61 V) := fun V hV => by
            obtain ⟨k1, k2⟩ := d2.setE 61 61 rfl
            exact ⟨(ds4 (k1.nw hV)).1, HBAD.out n _ p2 61 hp2 (by decide) (by rw [hR]; rfl) (k1.nw hV) ((fr2.trans k2).trans hV.any)⟩
          have z4 := (HST.out _ (Fr.refl _ _)).1
          have hfz : ((61 : Int) == 0) = false := by decide
          clear hR cn2 d2 fr2 HBAD HOK hs
          generalize s.out.length = OL at *
          go_upto_region 5 with fail
          generalize w2.setCell ⟨sb, 4, none⟩ (.int .i64 61) = W4 at *
          go_quiet (fail)
          obtain ⟨z5, HI0⟩ := HST.out (W4.drewN nq) ((Fr.refl _ _).drewN _)
          have HI0 : Hid (StbI sb ga cg b most p og s.lst RES w n 0 61 (W4.drewN nq)) := HI0
          clear HST x4 y4 o2 u2 o3 u3 z4
          generalize W4.drewN nq = W5 at *
          have HIW : Hid (StbI sb ga cg b most p og s.lst RES w n 0 61 W5) := HI0
          clear HI0
          go_wp2_with fail
          go_loopg [4] n (fun kx i wr => ∃ (I er : Nat), I ≤ n ∧ n - I ≤ kx ∧ i = .int .i64 I ∧ wr.cell? ⟨sb, 4, none⟩ = some (.int .i64 (er : Nat)) ∧ Hid (StbI sb ga cg b most p og s.lst RES w n I er wr))
          case atStart => exact ⟨0, 61, by omega, by omega, rfl, z5, HIW⟩
          case round =>
            clear HIW
            obtain ⟨I, er, hI, hkx, rfl, x4, HI⟩ := hrel
            by_cases hlt : I < n
            · have hz1 : (I : Int) < (n : Int) := by omega
              by_cases her : er = 0
              · subst her
                have HB8 : Hid (Calls Tryd.prog 36 #[.pointer (some ⟨sb, 0, none⟩), .int .i64 8] wr fun e w1 => ∃ x : Nat, e = .returned (.int .i64 x) ∧ x < 256 ∧ Hid (Calls Tryd.prog 47 #[.pointer (some ⟨sb, 0, none⟩), .slice (some ⟨w1.heap.size, 0, none⟩) 1 1] (w1.alloc (.cells #[.int .u8 x] 5)) fun e w2 => (∃ r, e = .returned r) ∧ Hid (∃ er', w2.cell? ⟨sb, 4, none⟩ = some (.int .i64 (er' : Nat)) ∧ StbI sb ga cg b most p og s.lst RES w n (I + 1) er' w2))) := HI.out.byte hlt
                clear HI HE
                go_upto_region 11 with (first | (go_at_call 36; (with_reducible refine HB8.out.mono ?_); rintro e w1 ⟨x, rfl, hx, H1⟩))
                have hwx : IntKind.u8.wrap (x : Int) = (x : Int) := by rw [IntKind.wrap_u8]; omega
                go_wp2_with (first | (go_at_call 47; (with_reducible refine H1.out.mono ?_); rintro e w2 ⟨⟨r, rfl⟩, H2⟩))
                go_roundg (n - (I + 1))
                case measure => omega
                case rel => obtain ⟨er', z1, z2⟩ := H2.out; exact ⟨I + 1, er', by omega, by omega, by first | rfl | (congr 1), z1, z2⟩
              · have HF : Hid (∀ r, P (.returned r) wr) := fun r => HE.out _ _ _ _ (.inl her) HI.out
                have hz := ne0' her
                have hz2 := ne0 her
                clear HI HE
                go_wp2_with fail
                go_end0
                exact HF.out _
            · have HF : Hid (∀ r, P (.returned r) wr) := fun r => HE.out _ _ _ _ (.inr (by omega)) HI.out
              have hz1 : ¬ (I : Int) < (n : Int) := by omega
              clear HI HE
              go_wp2_with fail
              go_end0
              exact HF.out _
      · have HST : Hid (∀ V, Nw w2 V → V.cell? ⟨sb, 4, none⟩ = some (.int .i64 (er2 : Nat)) ∧ StbI sb ga cg b most p og s.lst RES w n 0 er2 V) := fun V hV =>
          ⟨(ds4 (d2.nw hV)).1, HBAD.out n _ p2 er2 hp2 he2 (cn2.bad he2) (d2.nw hV) (fr2.trans hV.any)⟩
        have hz := ne0' he2
        have hz2 := ne0 he2
        clear cn2 d2 fr2 HBAD HOK
        generalize s.out.length = OL at *
        go_upto_region 5 with fail
        go_quiet (fail)
        obtain ⟨z5, HI0⟩ := HST.out (w2.drewN nq) ((Fr.refl _ _).drewN _)
        have HI0 : Hid (StbI sb ga cg b most p og s.lst RES w n 0 er2 (w2.drewN nq)) := HI0
        clear HST x4 y4 o2 u2 o3 u3
        generalize w2.drewN nq = W5 at *
        have HIW : Hid (StbI sb ga cg b most p og s.lst RES w n 0 er2 W5) := HI0
        clear HI0
        go_wp2_with fail
        go_loopg [4] n (fun kx i wr => ∃ (I er : Nat), I ≤ n ∧ n - I ≤ kx ∧ i = .int .i64 I ∧ wr.cell? ⟨sb, 4, none⟩ = some (.int .i64 (er : Nat)) ∧ Hid (StbI sb ga cg b most p og s.lst RES w n I er wr))
        case atStart => exact ⟨0, er2, by omega, by omega, rfl, z5, HIW⟩
        case round =>
          clear HIW
          obtain ⟨I, er, hI, hkx, rfl, x4, HI⟩ := hrel
          by_cases hlt : I < n
          · have hz1 : (I : Int) < (n : Int) := by omega
            by_cases her : er = 0
            · subst her
              have HB8 : Hid (Calls Tryd.prog 36 #[.pointer (some ⟨sb, 0, none⟩), .int .i64 8] wr fun e w1 => ∃ x : Nat, e = .returned (.int .i64 x) ∧ x < 256 ∧ Hid (Calls Tryd.prog 47 #[.pointer (some ⟨sb, 0, none⟩), .slice (some ⟨w1.heap.size, 0, none⟩) 1 1] (w1.alloc (.cells #[.int .u8 x] 5)) fun e w2 => (∃ r, e = .returned r) ∧ Hid (∃ er', w2.cell? ⟨sb, 4, none⟩ = some (.int .i64 (er' : Nat)) ∧ StbI sb ga cg b most p og s.lst RES w n (I + 1) er' w2))) := HI.out.byte hlt
              clear HI HE
              go_upto_region 11 with (first | (go_at_call 36; (with_reducible refine HB8.out.mono ?_); rintro e w1 ⟨x, rfl, hx, H1⟩))
              have hwx : IntKind.u8.wrap (x : Int) = (x : Int) := by rw [IntKind.wrap_u8]; omega
              go_wp2_with (first | (go_at_call 47; (with_reducible refine H1.out.mono ?_); rintro e w2 ⟨⟨r, rfl⟩, H2⟩))
              go_roundg (n - (I + 1))
              case measure => omega
              case rel => obtain ⟨er', z1, z2⟩ := H2.out; exact ⟨I + 1, er', by omega, by omega, by first | rfl | (congr 1), z1, z2⟩
            · have HF : Hid (∀ r, P (.returned r) wr) := fun r => HE.out _ _ _ _ (.inl her) HI.out
              have hz := ne0' her
              have hz2 := ne0 her
              clear HI HE
              go_wp2_with fail
              go_end0
              exact HF.out _
          · have HF : Hid (∀ r, P (.returned r) wr) := fun r => HE.out _ _ _ _ (.inr (by omega)) HI.out
            have hz1 : ¬ (I : Int) < (n : Int) := by omega
            clear HI HE
            go_wp2_with fail
            go_end0
            exact HF.out _
end Go.Proofs.YtincbbnppcpfpaaDoor
