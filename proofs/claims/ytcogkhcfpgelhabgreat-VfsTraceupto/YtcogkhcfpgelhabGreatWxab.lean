import Derived.Test.YtcogkhcfpgelhabGreatWxaa
import Derived.Laws.CopyRow
namespace Go.Proofs.YtcogkhcfpgelhabGreat
open Go.RowKit
set_option linter.unusedVariables false
set_option maxRecDepth 100000
variable {fb mb : Nat} {ot : Option Nat} {L : Int → Lay} {h : Hx} {q : Int → Option Pn} {cnt : Nat} {T : List Ac} {w w' : World} {X : Nat → Prop}
set_option maxHeartbeats 4000000 in
theorem symlink_any (H : FsH fb mb ot L h q cnt T w) (hfr : q h.next = none) (hnx : 0 ≤ h.next ∧ h.next ≤ 1099511627776) (hT : T.length ≤ 2000000000000) (hcn : cnt ≤ 1000000) (d : Int) (hd64 : I64 d) (s : Tx) (hs : s.length ≤ 140737488351232)
    (hzero : ∀ p n, q d = some p → p.ents s = some n → n ≠ 0) (hneb : ∀ p, q d = some p → p.ne ≤ 1000000000000000) (tgt : Tx) (htl : tgt.length ≤ 140737488351232) (mt : Mt) :
    Calls Tryz.prog 34 #[.pointer (some ⟨fb, 0, none⟩), .int .i64 d, .string (mk s), .string (mk tgt), mtV mt] w (AddO fb mb ot L h q cnt T 3 d s 3 mt tgt w) := by
  obtain ⟨P, hP⟩ : ∃ P : Ending → World → Prop, P = AddO fb mb ot L h q cnt T 3 d s 3 mt tgt w := ⟨_, rfl⟩
  rw [← hP]
  obtain ⟨V1, hV1⟩ : ∃ V1, V1 = w.alloc (.cells #[.int .u32 mt.mode, .int .u32 mt.uid, .int .u32 mt.gid, .int .i64 mt.time, .int .i32 mt.nano] 37) := ⟨_, rfl⟩
  have hN1 : Nw w V1 := by rw [hV1]; exact (Fr.refl _ _).alloc _
  have HA : Hid (Calls Tryz.prog 51 #[.pointer (some ⟨fb, 0, none⟩), .int .i64 3, .agg #[.int .i64 d, .string (mk s)], .agg #[.int .i64 3, .int .u32 mt.mode, .int .u32 mt.uid, .int .u32 mt.gid, .int .i64 mt.time, .int .i32 mt.nano, .slice none 0 0, .string (mk tgt), .map none, .int .i64 0, .int .i64 0]] V1 fun e w' => ∃ a b, e = .returned (.tuple #[.int .i64 a, .int .i64 b]) ∧ Hid (P e w')) := by
    have := add_any H hN1 hfr hnx hT hcn d hd64 s hs hzero hneb 3 mt tgt htl 0 (fun hh => by cases hh) 3
    rw [newE_other 3 (by decide)] at this
    refine Calls.mono this (fun e w' hh => ?_)
    obtain ⟨a, b, e1⟩ := hh.tup
    exact ⟨a, b, e1, by rw [hP]; exact hh⟩
  have hc : ∀ j v, (#[.int .u32 mt.mode, .int .u32 mt.uid, .int .u32 mt.gid, .int .i64 mt.time, .int .i32 mt.nano] : Array Value)[j]? = some v → V1.cell? ⟨w.heap.size, j, none⟩ = some v := fun j v hv => by rw [hV1]; exact (rc (nh w _) j v hv).1
  have c0 := hc 0 _ rfl
  have c1 := hc 1 _ rfl
  have c2 := hc 2 _ rfl
  have c3 := hc 3 _ rfl
  have c4 := hc 4 _ rfl
  have HV1 := tHid hV1
  clear hc H hP hN1 hzero hneb hV1
  unfold mtV
  generalize mk s = ss at *
  generalize mk tgt = tt at *
  go_enter Tryz.func34, Tryz.ntmps34
  go_upto_region 1 with fail
  rw [← HV1.out]
  clear HV1
  go_wp2_with (first | (go_at_call 51; with_reducible refine HA.out.mono ?_; rintro e w5 ⟨a, b, rfl, H5⟩))
  exact H5.out
/-- The trace is forgotten. -/
theorem FsH.forget (H : FsH fb mb ot L h q cnt T w) : FsH fb mb none L h q cnt [] (w.setCell ⟨fb, 5, none⟩ (.slice none 0 0)) := by
  obtain ⟨tv, h1, h2⟩ := H.blk
  have f : Fr (fun k => k = fb) w (w.setCell ⟨fb, 5, none⟩ (.slice none 0 0)) := (Fr.refl (fun k => k = fb) w).setCell ⟨fb, 5, none⟩ _ (.inl rfl)
  have hne : ∀ k, tg w k ≠ some 82 → ¬ k = fb := fun k hk e => hk (by rw [e]; exact H.tfb)
  refine ⟨⟨.slice none 0 0, rset h1 5 _, rfl, rfl⟩, H.mp.kept f (fun e => ?_), fun k p2 hp2 => (H.nd k p2 hp2).kept f (fun e => ?_) (fun hk2 e => ?_) (fun g hg e => ?_), H.inj, H.ebm⟩
  · have t := H.mp.tg; rw [e, H.tfb] at t; cases t
  · have t := H.tib hp2; rw [e, H.tfb] at t; cases t
  · have t := H.teb hp2 hk2; rw [e, H.tfb] at t; cases t
  · have t := H.tod hp2 g hg; rw [e, H.tfb] at t; cases t
/-- A meta, put into an inode. -/
theorem stoV_meta (w : World) (ib : Nat) (p : Pn) (dv ev : Value) (hg : w.heap[ib]? = some (.cells (ndC p dv ev) 91)) (m : Mt) :
    (stoV 37 (.pointer (some ⟨ib, 1, none⟩)) (.agg #[.int .u32 m.mode, .int .u32 m.uid, .int .u32 m.gid, .int .i64 m.time, .int .i32 m.nano])).run Tryz.prog w = .ok () (w.setRow ib (ndC { p with mt := m } dv ev)) := by
  have hi : (Tryz.prog.info? 37).map (·.size) = some 5 := by kernel_rfl
  have hs := run_storeCells_at (P := Tryz.prog) ib 1 91 [.int .u32 m.mode, .int .u32 m.uid, .int .u32 m.gid, .int .i64 m.time, .int .i32 m.nano] 0 _ w hg (by simp [ndC]) (by simp [Value.oneCell'])
  unfold stoV
  simp only [Instr.storeAt, Instr.sureAddr, Sem.run_bind, Sem.run_pure, Result.andThen_ok]
  cases hq : Tryz.prog.info? 37 with
  | none => simp [hq] at hi
  | some i =>
    have hz : i.size = 5 := by simpa [hq] using hi
    simp [storeVar, sizeOf, typeInfo, hq, Value.cells, hz]
    exact hs
/-- What Change answers. -/
def chE (q : Int → Option Pn) (n : Int) (m : Mt) : Int := match q n with | none => 100 | some _ => if mtOk m = true then 0 else 1
def ChO (fb mb : Nat) (ot : Option Nat) (L : Int → Lay) (h : Hx) (q : Int → Option Pn) (cnt : Nat) (T : List Ac) (n : Int) (m : Mt) (w : World) (e : Ending) (w' : World) : Prop :=
  (chE q n m ≠ 0 ∧ e = .returned (.int .i64 (chE q n m)) ∧ Nw w w') ∨
  (chE q n m = 0 ∧ e = .returned (.int .i64 0) ∧ ∃ p, q n = some p ∧ MutO fb mb ot L q h (fun j => if j = n then some { p with mt := m } else q j) cnt (T ++ [⟨10, 0, [], n, 0, [], 0, 0⟩]) w w')
section
attribute [local go_sem ↓] stoV_fold
set_option maxHeartbeats 8000000 in
theorem change_any (H : FsH fb mb ot L h q cnt T w) (hT : T.length ≤ 2000000000000) (n : Int) (hn64 : I64 n) (m : Mt) :
    Calls Tryz.prog 37 #[.pointer (some ⟨fb, 0, none⟩), .int .i64 n, mtV m] w (ChO fb mb ot L h q cnt T n m w) := by
  obtain ⟨P, hP⟩ : ∃ P : Ending → World → Prop, P = ChO fb mb ot L h q cnt T n m w := ⟨_, rfl⟩
  rw [← hP]
  obtain ⟨V1, hV1⟩ : ∃ V1, V1 = w.alloc (.cells #[.int .u32 m.mode, .int .u32 m.uid, .int .u32 m.gid, .int .i64 m.time, .int .i32 m.nano] 37) := ⟨_, rfl⟩
  have hN1 : Nw w V1 := by rw [hV1]; exact (Fr.refl _ _).alloc _
  have HV := H.nw hN1
  have c0' := HV.cs.c0
  have hc : ∀ j v, (#[.int .u32 m.mode, .int .u32 m.uid, .int .u32 m.gid, .int .i64 m.time, .int .i32 m.nano] : Array Value)[j]? = some v → V1.cell? ⟨w.heap.size, j, none⟩ = some v := fun j v hv => by rw [hV1]; exact (rc (nh w _) j v hv).1
  have c0 := hc 0 _ rfl
  have c1 := hc 1 _ rfl
  have c2 := hc 2 _ rfl
  have c3 := hc 3 _ rfl
  have c4 := hc 4 _ rfl
  have HFE : Hid (∀ c V, c ≠ 0 → chE q n m = c → Nw w V → P (.returned (.int .i64 c)) V) := fun c V hc e hV => by
    rw [hP]; exact .inl ⟨by rw [e]; exact hc, by rw [e], hV⟩
  rcases option_none_iff (q n) with hqn | ⟨p, hqn⟩
  · have hl := HV.look_none hn64 hqn
    have HF := tHid (HFE.out 100 V1 (by decide) (by unfold chE; rw [hqn]) hN1)
    have HW := tHid hV1
    clear H HV hP hV1 hN1 HFE hc c0 c1 c2 c3 c4
    unfold mtV
    go_enter Tryz.func37, Tryz.ntmps37
    go_upto_region 1 with fail
    rw [← HW.out]
    clear HW
    go_wp2_with fail
    exact HF.out
  · have hl := HV.look_some hn64 hqn
    have HM : Hid (Calls Tryz.prog 63 #[.agg #[.int .u32 m.mode, .int .u32 m.uid, .int .u32 m.gid, .int .i64 m.time, .int .i32 m.nano]] V1 fun e w' => e = .returned (.bool (mtOk m)) ∧ Hid (Nw V1 w')) := isMeta_any m V1
    by_cases hm : mtOk m = true
    · have HS : Hid (∀ w2, Nw V1 w2 → ∃ w3, (stoV 37 (.pointer (some ⟨(L n).ib, 1, none⟩)) (.agg #[.int .u32 m.mode, .int .u32 m.uid, .int .u32 m.gid, .int .i64 m.time, .int .i32 m.nano])).run Tryz.prog w2 = .ok () w3 ∧ Hid (Calls Tryz.prog 53 #[.pointer (some ⟨fb, 0, none⟩), .agg #[.int .i64 10, .int .i64 0, .string ⟨#[]⟩, .int .i64 n, .int .i64 0, .string ⟨#[]⟩, .int .i64 0, .int .i64 0]] w3 fun e w' => (∃ r, e = .returned r) ∧ Hid (P (.returned (.int .i64 0)) w'))) := fun w2 hN2 => by
        have H2 := H.nw (hN1.trans hN2)
        obtain ⟨dv, ev, k1, k2, k3, k4⟩ := (H2.nd n p hqn).blk
        refine ⟨_, stoV_meta w2 (L n).ib p dv ev k1 m, ?_⟩
        have f3 : Fr (fun k => k = (L n).ib) w2 (w2.setRow (L n).ib (ndC { p with mt := m } dv ev)) := (Fr.refl (fun k => k = (L n).ib) w2).setRow _ _ (.inl rfl)
        have t1 := tg_cells k1
        have H3 : FsH fb mb ot L h (fun j => if j = n then some { p with mt := m } else q j) cnt T (w2.setRow (L n).ib (ndC { p with mt := m } dv ev)) := by
          refine H2.turnS hqn (p' := { p with mt := m }) rfl f3 (fun k e => .inl e) ⟨dv, ev, setRow_heap w2 (L n).ib _ _ 91 _ k1, k2.kept f3 (fun g hg e => ?_), fun hk1 => ⟨(k3 hk1).1, (k3 hk1).2.kept f3 (fun e => ?_)⟩, k4⟩
          · have t := H2.tod hqn g hg; rw [e, t1] at t; cases t
          · have t := (k3 hk1).2.tg; rw [e, t1] at t; cases t
        refine Calls.mono (did_any H3 hT ⟨10, 0, [], n, 0, [], 0, 0⟩) ?_
        rintro e w' ⟨hr, ot', H4, f4, ho⟩
        refine ⟨hr, ?_⟩
        show P _ _
        rw [hP]
        refine .inr ⟨by unfold chE; rw [hqn]; exact if_pos hm, rfl, p, hqn, ?_⟩
        have fA : Fr (fun k => k = (L n).ib) w (w2.setRow (L n).ib (ndC { p with mt := m } dv ev)) := (hN1.trans hN2).any.trans f3
        refine MutO.of (X := fun k => k = (L n).ib) (fun k x hx => ?_) fA (fun k e => .inl (.inr (.inr (.inr ⟨n, p, hqn, .inl e⟩)))) H4 f4 ho
        by_cases hk : k = n
        · rw [if_pos hk] at hx
          injection hx with hx
          exact ⟨p, by rw [hk]; exact hqn, by rw [← hx]⟩
        · rw [if_neg hk] at hx
          exact ⟨x, hx, rfl⟩
      rw [hm] at HM
      have HCC : Hid (∀ V, Nw V1 V → V.cell? ⟨w.heap.size, 0, none⟩ = some (.int .u32 m.mode) ∧ V.cell? ⟨w.heap.size, 1, none⟩ = some (.int .u32 m.uid) ∧ V.cell? ⟨w.heap.size, 2, none⟩ = some (.int .u32 m.gid) ∧ V.cell? ⟨w.heap.size, 3, none⟩ = some (.int .i64 m.time) ∧ V.cell? ⟨w.heap.size, 4, none⟩ = some (.int .i32 m.nano)) := fun V hV => ⟨hV.cell c0, hV.cell c1, hV.cell c2, hV.cell c3, hV.cell c4⟩
      have HW := tHid hV1
      clear H HV hP hV1 hN1 HFE hc hqn
      generalize (L n).ib = ib at *
      unfold mtV
      go_enter Tryz.func37, Tryz.ntmps37
      go_upto_region 1 with fail
      rw [← HW.out]
      clear HW
      go_upto_region 6 with (first | (go_at_call 63; with_reducible refine HM.out.mono ?_; rintro e w2 ⟨rfl, H2⟩))
      obtain ⟨w3, hst, HD⟩ := HS.out w2 H2.out
      obtain ⟨d0, d1, d2, d3, d4⟩ := HCC.out w2 H2.out
      clear HS HCC H2 HM c0 c1 c2 c3 c4
      go_wp2_with (first | (go_at_call 53; with_reducible refine HD.out.mono ?_; rintro e w4 ⟨⟨r4, rfl⟩, HF⟩))
      exact HF.out
    · have hmf : mtOk m = false := by simpa using hm
      rw [hmf] at HM
      have HF : Hid (∀ V, Nw V1 V → P (.returned (.int .i64 1)) V) := fun V hV => HFE.out 1 V (by decide) (by unfold chE; rw [hqn]; exact if_neg hm) (hN1.trans hV)
      have HW := tHid hV1
      clear H HV hP hV1 hN1 HFE hc hqn
      generalize (L n).ib = ib at *
      unfold mtV
      go_enter Tryz.func37, Tryz.ntmps37
      go_upto_region 1 with fail
      rw [← HW.out]
      clear HW
      go_wp2_with (first | (go_at_call 63; with_reducible refine HM.out.mono ?_; rintro e w2 ⟨rfl, H2⟩))
      exact HF.out _ H2.out
end
end Go.Proofs.YtcogkhcfpgelhabGreat

namespace Go.Proofs.YtcogkhcfpgelhabGreat
open Go.RowKit
set_option linter.unusedVariables false
set_option maxRecDepth 100000
variable {fb mb : Nat} {ot : Option Nat} {L : Int → Lay} {h : Hx} {q : Int → Option Pn} {cnt : Nat} {T : List Ac} {w w' : World} {X : Nat → Prop}
/-- Is a directory top, or does it lie in it? -/
def inW (q : Int → Option Pn) : Nat → Int → Int → Bool
  | 0, d, t => decide (d = t)
  | k + 1, d, t => if d = t then true else if d = 1 then false else match q d with
    | none => false
    | some p => inW q k p.up t
/-- Ranks: up is nearer to the root. -/
def Rkd (q : Int → Option Pn) (rk : Int → Nat) : Prop := ∀ d p, q d = some p → p.kind = 1 → d ≠ 1 → I64 p.up ∧ rk p.up < rk d ∧ ∃ p', q p.up = some p' ∧ p'.kind = 1
theorem inW_step {rk : Int → Nat} (hr : Rkd q rk) {d t : Int} {p : Pn} (hq : q d = some p) (hk : p.kind = 1) (h1 : d ≠ t) (h2 : d ≠ 1) (k : Nat) (hkk : rk d ≤ k) : ∃ k', k = k' + 1 ∧ rk p.up ≤ k' ∧ inW q k d t = inW q k' p.up t := by
  obtain ⟨_, h3, _⟩ := hr d p hq hk h2
  cases k with
  | zero => omega
  | succ k' =>
    refine ⟨k', rfl, by omega, ?_⟩
    conv => lhs; unfold inW
    rw [if_neg h1, if_neg h2, hq]
set_option maxHeartbeats 4000000 in
theorem within_any (H : FsH fb mb ot L h q cnt T w) {rk : Int → Nat} (hr : Rkd q rk) (d top : Int) (hd64 : I64 d) {p : Pn} (hq : q d = some p) (hk : p.kind = 1) : Calls Tryz.prog 79 #[.pointer (some ⟨fb, 0, none⟩), .int .i64 d, .int .i64 top] w fun e w' => e = .returned (.bool (inW q (rk d) d top)) ∧ w = w' := by
  obtain ⟨P, hP⟩ : ∃ P : Ending → World → Prop, P = fun e w' => e = .returned (.bool (inW q (rk d) d top)) ∧ w = w' := ⟨_, rfl⟩
  rw [← hP]
  have HF : Hid (P (.returned (.bool (inW q (rk d) d top))) w) := by rw [hP]; exact ⟨rfl, rfl⟩
  have HH := tHid H
  have HR := tHid hr
  have c0 := H.cs.c0
  have HS : Hid (∃ k, rk d ≤ k ∧ inW q (rk d) d top = inW q k d top ∧ I64 d ∧ ∃ p, q d = some p ∧ p.kind = 1) := ⟨rk d, Nat.le_refl _, rfl, hd64, p, hq, hk⟩
  generalize inW q (rk d) d top = ans at *
  clear H hr hP hd64 hq hk
  go_enter Tryz.func79, Tryz.ntmps79
  go_wp2_with fail
  go_loopg [1] (rk d) (fun kx v wr => ∃ d2, v = .int .i64 d2 ∧ rk d2 ≤ kx ∧ w = wr ∧ Hid (∃ k, rk d2 ≤ k ∧ ans = inW q k d2 top ∧ I64 d2 ∧ ∃ p, q d2 = some p ∧ p.kind = 1))
  case atStart => exact ⟨d, rfl, Nat.le_refl _, rfl, HS⟩
  case round =>
    obtain ⟨d2, rfl, hkx, rfl, HI⟩ := hrel
    obtain ⟨k, hkk, hans, h64, p2, hq2, hk2⟩ := HI.out
    by_cases h1 : d2 = top
    · have e1 : ans = true := by
        rw [hans, h1]
        cases k <;> simp [inW]
      have hb : (d2 != top) = false := by simp [h1]
      have hb2 : (d2 == top) = true := by simp [h1]
      subst e1
      clear HI HS HH HR hans hq2 hk2 h64
      subst h1
      go_wp2_with fail
      exact HF.out
    · by_cases h2 : d2 = 1
      · have e1 : ans = false := by
          rw [hans]
          cases k with
          | zero => simp [inW, h1]
          | succ k' => unfold inW; rw [if_neg h1, if_pos h2]
        subst e1
        clear HI HS HH HR hans hq2 hk2 h64
        subst h2
        have hb : ((1 : Int) != top) = true := by simp [h1]
        have hb2 : ((1 : Int) == top) = false := by simp [h1]
        go_wp2_with fail
        exact HF.out
      · obtain ⟨k', rfl, hk3, hs⟩ := inW_step HR.out hq2 hk2 h1 h2 k hkk
        obtain ⟨u64, u2, u3⟩ := HR.out d2 p2 hq2 hk2 h2
        have hl := HH.out.look_some h64 hq2
        obtain ⟨dv, ev, hC⟩ := HH.out.anyC hq2
        have xa := hC.ca
        have HI2 : Hid (∃ k, rk p2.up ≤ k ∧ ans = inW q k p2.up top ∧ I64 p2.up ∧ ∃ p, q p2.up = some p ∧ p.kind = 1) := ⟨k', hk3, by rw [hans, hs], u64, u3⟩
        have hb : (d2 != top) = true := by simp [h1]
        have hb2 : (d2 != 1) = true := by simp [h2]
        clear HI HS HH HR hans hq2 hk2 h64 hs hC u3 u64 HF hk3 hkk
        generalize (L d2).ib = ib at *
        generalize p2.up = up at *
        go_wp2_with fail
        go_roundg (rk up)
        case measure => omega
        case rel => exact ⟨up, rfl, Nat.le_refl _, rfl, HI2⟩
end Go.Proofs.YtcogkhcfpgelhabGreat

namespace Go.Proofs.YtcogkhcfpgelhabGreat
open Go.RowKit
set_option linter.unusedVariables false
set_option maxRecDepth 100000
variable {fb mb : Nat} {ot : Option Nat} {L : Int → Lay} {h : Hx} {q : Int → Option Pn} {cnt : Nat} {T : List Ac} {w w' : World} {X : Nat → Prop}
def neQ (q : Int → Option Pn) (n : Int) : Bool := match q n with | none => false | some p => decide (0 < p.ne)
/-- Why x can't go into the directory too. -/
def stkE (q : Int → Option Pn) (k : Nat) (x y too : Int) : Int := if y ≠ 0 ∧ (isDirQ q x != isDirQ q y) = true then 106 else if isDirQ q x = true ∧ inW q k too x = true then 108 else if y ≠ 0 ∧ neQ q y = true then 109 else 0
set_option maxHeartbeats 8000000 in
theorem stuck_any (H : FsH fb mb ot L h q cnt T w) {rk : Int → Nat} (hr : Rkd q rk) (x y too : Int) (hx64 : I64 x) (hy64 : I64 y) (ht64 : I64 too) {pt : Pn} (ht : q too = some pt) (hkt : pt.kind = 1) (hy : y ≠ 0 → ∃ p, q y = some p) :
    Calls Tryz.prog 61 #[.pointer (some ⟨fb, 0, none⟩), .int .i64 x, .int .i64 y, .int .i64 too] w fun e w' => e = .returned (.int .i64 (stkE q (rk too) x y too)) ∧ w = w' := by
  obtain ⟨P, hP⟩ : ∃ P : Ending → World → Prop, P = fun e w' => e = .returned (.int .i64 (stkE q (rk too) x y too)) ∧ w = w' := ⟨_, rfl⟩
  rw [← hP]
  have HF : Hid (P (.returned (.int .i64 (stkE q (rk too) x y too))) w) := by rw [hP]; exact ⟨rfl, rfl⟩
  have CX := tHid (isDir_any H x hx64)
  have CY := tHid (isDir_any H y hy64)
  have CW := tHid (within_any H hr too x ht64 ht hkt)
  have CE : Hid (y ≠ 0 → Calls Tryz.prog 76 #[.pointer (some ⟨fb, 0, none⟩), .int .i64 y] w fun e w' => e = .returned (.bool (neQ q y)) ∧ w = w') := fun hy0 => by
    obtain ⟨p, hp⟩ := hy hy0
    have e : neQ q y = decide (0 < p.ne) := by unfold neQ; rw [hp]
    rw [e]
    exact hasEntries_any H y hy64 hp
  unfold stkE at HF
  clear H hP hr ht hkt hy hx64 hy64 ht64
  generalize isDirQ q x = bx at *
  generalize isDirQ q y = bY at *
  generalize inW q (rk too) too x = bw at *
  generalize neQ q y = be at *
  by_cases hy0 : y = 0
  · subst hy0
    have e1 : (if (0 : Int) ≠ 0 ∧ (bx != bY) = true then (106 : Int) else if bx = true ∧ bw = true then 108 else if (0 : Int) ≠ 0 ∧ be = true then 109 else 0) = if bx = true ∧ bw = true then 108 else 0 := by simp
    rw [e1] at HF
    clear CE CY e1
    cases bx
    · have HF2 : Hid (P (.returned (.int .i64 0)) w) := by simpa using HF
      clear HF CW
      go_enter Tryz.func61, Tryz.ntmps61
      go_wp2_with (first | (go_at_call 44; with_reducible refine CX.out.mono ?_; rintro e w2 ⟨rfl, rfl⟩))
      exact HF2.out
    · cases bw
      · have HF2 : Hid (P (.returned (.int .i64 0)) w) := by simpa using HF
        clear HF
        go_enter Tryz.func61, Tryz.ntmps61
        go_wp2_with (first | (go_at_call 44; with_reducible refine CX.out.mono ?_; rintro e w2 ⟨rfl, rfl⟩) | (go_at_call 79; with_reducible refine CW.out.mono ?_; rintro e w3 ⟨rfl, rfl⟩))
        exact HF2.out
      · have HF2 : Hid (P (.returned (.int .i64 108)) w) := by simpa using HF
        clear HF
        go_enter Tryz.func61, Tryz.ntmps61
        go_wp2_with (first | (go_at_call 44; with_reducible refine CX.out.mono ?_; rintro e w2 ⟨rfl, rfl⟩) | (go_at_call 79; with_reducible refine CW.out.mono ?_; rintro e w3 ⟨rfl, rfl⟩))
        exact HF2.out
  · have CE2 := tHid (CE.out hy0)
    have hyb : (y != 0) = true := by simp [hy0]
    clear CE
    cases bx <;> cases bY
    · cases be
      · have HF2 : Hid (P (.returned (.int .i64 0)) w) := by simpa [hy0] using HF
        clear HF CW
        go_enter Tryz.func61, Tryz.ntmps61
        go_wp2_with (first | (go_at_call 44; with_reducible refine CX.out.mono ?_; rintro e w2 ⟨rfl, rfl⟩) | (go_at_call 44; with_reducible refine CY.out.mono ?_; rintro e w3 ⟨rfl, rfl⟩) | (go_at_call 76; with_reducible refine CE2.out.mono ?_; rintro e w4 ⟨rfl, rfl⟩))
        exact HF2.out
      · have HF2 : Hid (P (.returned (.int .i64 109)) w) := by simpa [hy0] using HF
        clear HF CW
        go_enter Tryz.func61, Tryz.ntmps61
        go_wp2_with (first | (go_at_call 44; with_reducible refine CX.out.mono ?_; rintro e w2 ⟨rfl, rfl⟩) | (go_at_call 44; with_reducible refine CY.out.mono ?_; rintro e w3 ⟨rfl, rfl⟩) | (go_at_call 76; with_reducible refine CE2.out.mono ?_; rintro e w4 ⟨rfl, rfl⟩))
        exact HF2.out
    · have HF2 : Hid (P (.returned (.int .i64 106)) w) := by simpa [hy0] using HF
      clear HF CW CE2
      go_enter Tryz.func61, Tryz.ntmps61
      go_wp2_with (first | (go_at_call 44; with_reducible refine CX.out.mono ?_; rintro e w2 ⟨rfl, rfl⟩) | (go_at_call 44; with_reducible refine CY.out.mono ?_; rintro e w3 ⟨rfl, rfl⟩))
      exact HF2.out
    · have HF2 : Hid (P (.returned (.int .i64 106)) w) := by simpa [hy0] using HF
      clear HF CW CE2
      go_enter Tryz.func61, Tryz.ntmps61
      go_wp2_with (first | (go_at_call 44; with_reducible refine CX.out.mono ?_; rintro e w2 ⟨rfl, rfl⟩) | (go_at_call 44; with_reducible refine CY.out.mono ?_; rintro e w3 ⟨rfl, rfl⟩))
      exact HF2.out
    · cases bw
      · cases be
        · have HF2 : Hid (P (.returned (.int .i64 0)) w) := by simpa [hy0] using HF
          clear HF
          go_enter Tryz.func61, Tryz.ntmps61
          go_wp2_with (first | (go_at_call 44; with_reducible refine CX.out.mono ?_; rintro e w2 ⟨rfl, rfl⟩) | (go_at_call 44; with_reducible refine CY.out.mono ?_; rintro e w3 ⟨rfl, rfl⟩) | (go_at_call 79; with_reducible refine CW.out.mono ?_; rintro e w3 ⟨rfl, rfl⟩) | (go_at_call 76; with_reducible refine CE2.out.mono ?_; rintro e w4 ⟨rfl, rfl⟩))
          exact HF2.out
        · have HF2 : Hid (P (.returned (.int .i64 109)) w) := by simpa [hy0] using HF
          clear HF
          go_enter Tryz.func61, Tryz.ntmps61
          go_wp2_with (first | (go_at_call 44; with_reducible refine CX.out.mono ?_; rintro e w2 ⟨rfl, rfl⟩) | (go_at_call 44; with_reducible refine CY.out.mono ?_; rintro e w3 ⟨rfl, rfl⟩) | (go_at_call 79; with_reducible refine CW.out.mono ?_; rintro e w3 ⟨rfl, rfl⟩) | (go_at_call 76; with_reducible refine CE2.out.mono ?_; rintro e w4 ⟨rfl, rfl⟩))
          exact HF2.out
      · have HF2 : Hid (P (.returned (.int .i64 108)) w) := by simpa [hy0] using HF
        clear HF CE2
        go_enter Tryz.func61, Tryz.ntmps61
        go_wp2_with (first | (go_at_call 44; with_reducible refine CX.out.mono ?_; rintro e w2 ⟨rfl, rfl⟩) | (go_at_call 44; with_reducible refine CY.out.mono ?_; rintro e w3 ⟨rfl, rfl⟩) | (go_at_call 79; with_reducible refine CW.out.mono ?_; rintro e w3 ⟨rfl, rfl⟩))
        exact HF2.out
end Go.Proofs.YtcogkhcfpgelhabGreat

namespace Go.Proofs.YtcogkhcfpgelhabGreat
open Go.RowKit
set_option linter.unusedVariables false
set_option maxRecDepth 100000
variable {fb mb : Nat} {ot : Option Nat} {L : Int → Lay} {h : Hx} {q : Int → Option Pn} {cnt : Nat} {T : List Ac} {w w' : World} {X : Nat → Prop}
/-- What lies behind the leaving of what is in the way. -/
def wayQ (q : Int → Option Pn) (t : Int) (s : Tx) : Option (Int × Pn) → Int → Option Pn
  | none => q
  | some (y, py) => leaQ q t s y py
def wayH (h : Hx) : Option (Int × Pn) → Hx
  | none => h
  | some (_, py) => leaH h py
def wayN (cnt : Nat) : Option (Int × Pn) → Nat
  | none => cnt
  | some (_, py) => leaN cnt py
/-- What is asked of what is in the way. -/
def WayOk (q : Int → Option Pn) (h : Hx) (t : Int) (pt : Pn) (s : Tx) : Option (Int × Pn) → Prop
  | none => pt.ents s = none
  | some (y, py) => pt.ents s = some y ∧ y ≠ 0 ∧ I64 y ∧ q y = some py ∧ t ≠ y ∧ (1 ≤ py.links ∧ py.links ≤ 1000000000000000) ∧ (0 ≤ h.held ∧ h.held ≤ 1000000000000000 ∧ py.data.length ≤ 1000000000000000)
def MvO (fb mb : Nat) (ot : Option Nat) (L : Int → Lay) (h : Hx) (q : Int → Option Pn) (cnt : Nat) (T : List Ac) (d t x : Int) (s s2 : Tx) (wy : Option (Int × Pn)) (px2 : Pn) (w w' : World) : Prop :=
  FsH fb mb ot L (leaH (wayH h wy) px2) (leaQ (entQ (wayQ q t s2 wy) t s2 x) d s x px2) (leaN (wayN cnt wy) px2) T w' ∧ Fr (fun k => k < w.heap.size) w w'
set_option maxHeartbeats 8000000 in
theorem move_any (H : FsH fb mb ot L h q cnt T w) (d t x : Int) (hd64 : I64 d) (ht64 : I64 t) (hx64 : I64 x) (s s2 : Tx) (hs : s.length ≤ 140737488351232) (hs2 : s2.length ≤ 140737488351232)
    {pd pt : Pn} (hd : q d = some pd) (hkd : pd.kind = 1) (hfd : pd.ents s = some x) (ht : q t = some pt) (hkt : pt.kind = 1) (wy : Option (Int × Pn)) (hw : WayOk q h t pt s2 wy)
    {pt1 px1 : Pn} (ht1 : wayQ q t s2 wy t = some pt1) (hk1 : pt1.kind = 1) (hf1 : pt1.ents s2 = none) (hn1 : pt1.ne ≤ 1000000000000000) (hx1 : wayQ q t s2 wy x = some px1) (htx : t ≠ x) (hl1 : 0 ≤ px1.links ∧ px1.links ≤ 1000000000000000)
    {pd2 px2 : Pn} (hd2 : entQ (wayQ q t s2 wy) t s2 x d = some pd2) (hk2 : pd2.kind = 1) (hf2 : pd2.ents s = some x) (hx2 : entQ (wayQ q t s2 wy) t s2 x x = some px2) (hdx : d ≠ x) (hl2 : 1 ≤ px2.links ∧ px2.links ≤ 1000000000000000) (hh2 : 0 ≤ (wayH h wy).held ∧ (wayH h wy).held ≤ 1000000000000000 ∧ px2.data.length ≤ 1000000000000000)
    (hLd : (L d).eb < w.heap.size ∧ (L t).eb < w.heap.size ∧ (L x).ib < w.heap.size) :
    Calls Tryz.prog 62 #[.pointer (some ⟨fb, 0, none⟩), .agg #[.int .i64 d, .string (mk s)], .agg #[.int .i64 t, .string (mk s2)]] w fun e w' => (∃ r, e = .returned r) ∧ MvO fb mb ot L h q cnt T d t x s s2 wy px2 w w' := by
  obtain ⟨P, hP⟩ : ∃ P : Ending → World → Prop, P = fun e w' => (∃ r, e = .returned r) ∧ MvO fb mb ot L h q cnt T d t x s s2 wy px2 w w' := ⟨_, rfl⟩
  rw [← hP]
  obtain ⟨V2, hV2⟩ : ∃ V2, V2 = (w.alloc (.cells #[.int .i64 d, .string (mk s)] 110)).alloc (.cells #[.int .i64 t, .string (mk s2)] 110) := ⟨_, rfl⟩
  have hN2 : Nw w V2 := by rw [hV2]; exact ((Fr.refl _ _).alloc _).alloc _
  have hs1 : (w.alloc (.cells #[.int .i64 d, .string (mk s)] 110)).heap.size = w.heap.size + 1 := by simp
  have hsz2 : V2.heap.size = w.heap.size + 2 := by rw [hV2]; simp
  have hfm : fb < w.heap.size ∧ mb < w.heap.size := ⟨H.lt _ (.inl rfl), H.lt _ (.inr (.inl rfl))⟩
  have HB : Hid (∀ V, Fr (fun k => k < w.heap.size) V2 V → V.cell? ⟨w.heap.size, 0, none⟩ = some (.int .i64 d) ∧ V.cell? ⟨w.heap.size, 1, none⟩ = some (.string (mk s)) ∧ V.cell? ⟨w.heap.size + 1, 0, none⟩ = some (.int .i64 t) ∧ V.cell? ⟨w.heap.size + 1, 1, none⟩ = some (.string (mk s2))) := fun V hV => by
    have hn : Nw (w.alloc (.cells #[.int .i64 d, .string (mk s)] 110)) V2 := by rw [hV2]; exact (Fr.refl _ _).alloc _
    have a1 : ∀ j v, (#[.int .i64 d, .string (mk s)] : Array Value)[j]? = some v → V2.cell? ⟨w.heap.size, j, none⟩ = some v := fun j v hv => hn.cell (rc (nh w _) j v hv).1
    have a2 : ∀ j v, (#[.int .i64 t, .string (mk s2)] : Array Value)[j]? = some v → V2.cell? ⟨w.heap.size + 1, j, none⟩ = some v := fun j v hv => by
      rw [hV2, ← hs1]; exact (rc (nh _ _) j v hv).1
    exact ⟨hV.cellv (a1 0 _ rfl) (by show ¬ w.heap.size < w.heap.size; omega), hV.cellv (a1 1 _ rfl) (by show ¬ w.heap.size < w.heap.size; omega), hV.cellv (a2 0 _ rfl) (by show ¬ w.heap.size + 1 < w.heap.size; omega), hV.cellv (a2 1 _ rfl) (by show ¬ w.heap.size + 1 < w.heap.size; omega)⟩
  have HA1 : Hid (Calls Tryz.prog 55 #[.pointer (some ⟨fb, 0, none⟩), .agg #[.int .i64 d, .string (mk s)]] V2 fun e w' => e = .returned (.int .i64 x) ∧ Hid (Nw V2 w')) := by
    have := at_any (H.nw hN2) d hd64 s hs hd hkd
    rw [hfd] at this
    exact this
  have HA2 : Hid (∀ V, Nw V2 V → Calls Tryz.prog 55 #[.pointer (some ⟨fb, 0, none⟩), .agg #[.int .i64 t, .string (mk s2)]] V fun e w' => e = .returned (.int .i64 ((pt.ents s2).getD 0)) ∧ Hid (Nw V2 w')) := fun V hV => (at_any (H.nw (hN2.trans hV)) t ht64 s2 hs2 ht hkt).mono (fun e w' hh => ⟨hh.1, hV.trans hh.2⟩)
  obtain ⟨S1, hS1⟩ : ∃ S1 : World → Prop, S1 = fun V => FsH fb mb ot L (wayH h wy) (wayQ q t s2 wy) (wayN cnt wy) T V ∧ Fr (fun k => k < w.heap.size) V2 V := ⟨_, rfl⟩
  have HW : Hid (∀ y py, wy = some (y, py) → ∀ V, Nw V2 V → Calls Tryz.prog 77 #[.pointer (some ⟨fb, 0, none⟩), .agg #[.int .i64 t, .string (mk s2)]] V fun e w' => (∃ r, e = .returned r) ∧ Hid (S1 w')) := fun y py e V hV => by
    subst e
    obtain ⟨w1, w2, w3, w4, w5, w6, w7⟩ := hw
    refine Calls.mono (leave_any (H.nw (hN2.trans hV)) t y ht64 w3 s2 hs2 ht hkt w1 w4 w5 w6 w7) ?_
    rintro e w' ⟨hr, g1, g2⟩
    refine ⟨hr, ?_⟩
    show S1 w'
    rw [hS1]
    have hyl := H.lt _ (.inr (.inr (.inr ⟨y, py, w4, .inl rfl⟩)))
    exact ⟨g1, hV.any.trans (g2.mono (fun i hi => .inl (by rcases hi with rfl | rfl | rfl | rfl <;> omega)))⟩
  have HW0 : Hid (wy = none → ∀ V, Nw V2 V → S1 V) := fun e V hV => by
    subst e
    rw [hS1]
    exact ⟨H.nw (hN2.trans hV), hV.any⟩
  obtain ⟨S2, hS2⟩ : ∃ S2 : World → Prop, S2 = fun V => FsH fb mb ot L (wayH h wy) (entQ (wayQ q t s2 wy) t s2 x) (wayN cnt wy) T V ∧ Fr (fun k => k < w.heap.size) V2 V := ⟨_, rfl⟩
  have HEn : Hid (∀ V, S1 V → Calls Tryz.prog 56 #[.pointer (some ⟨fb, 0, none⟩), .agg #[.int .i64 t, .string (mk s2)], .int .i64 x] V fun e w' => (∃ r, e = .returned r) ∧ Hid (S2 w')) := fun V hV => by
    rw [hS1] at hV
    refine Calls.mono (enter_any hV.1 t x ht64 hx64 s2 hs2 ht1 hk1 hf1 hn1 hx1 htx hl1) ?_
    rintro e w' ⟨hr, g1, g2⟩
    refine ⟨hr, ?_⟩
    show S2 w'
    rw [hS2]
    exact ⟨g1, hV.2.trans (g2.mono (fun i hi => .inl (by rcases hi with rfl | rfl <;> omega)))⟩
  have HLv : Hid (∀ V, S2 V → Calls Tryz.prog 77 #[.pointer (some ⟨fb, 0, none⟩), .agg #[.int .i64 d, .string (mk s)]] V fun e w' => (∃ r, e = .returned r) ∧ Hid (∀ r, P (.returned r) w')) := fun V hV => by
    rw [hS2] at hV
    refine Calls.mono (leave_any hV.1 d x hd64 hx64 s hs hd2 hk2 hf2 hx2 hdx hl2 hh2) ?_
    rintro e w' ⟨hr, g1, g2⟩
    refine ⟨hr, fun r => ?_⟩
    rw [hP]
    exact ⟨⟨r, rfl⟩, g1, (hN2.any.trans hV.2).trans (g2.mono (fun i hi => .inl (by rcases hi with rfl | rfl | rfl | rfl <;> omega)))⟩
  have HBN : Hid (∀ V, S1 V → Fr (fun k => k < w.heap.size) V2 V) := fun V hV => by rw [hS1] at hV; exact hV.2
  have HBN2 : Hid (∀ V, S2 V → Fr (fun k => k < w.heap.size) V2 V) := fun V hV => by rw [hS2] at hV; exact hV.2
  obtain ⟨c0, c1, c2, c3⟩ := HB.out V2 (Fr.refl _ _)
  have HV := tHid hV2
  cases wy with
  | none =>
    have hpn : pt.ents s2 = none := hw
    rw [hpn] at HA2
    clear H hP hV2 hN2 hs1 hsz2 hfm hd hkd hfd ht hkt hw ht1 hk1 hf1 hn1 hx1 htx hl1 hd2 hk2 hf2 hx2 hdx hl2 hh2 hLd hS1 hS2 HW hpn hs hs2 hd64 ht64 hx64
    generalize mk s = ss at *
    generalize mk s2 = ss2 at *
    go_enter Tryz.func62, Tryz.ntmps62
    go_upto_region 1 with fail
    rw [← HV.out]
    clear HV
    go_upto_region 2 with (first | (go_at_call 55; with_reducible refine HA1.out.mono ?_; rintro e w3 ⟨rfl, H3⟩))
    obtain ⟨d0, d1, d2, d3⟩ := HB.out w3 H3.out.any
    have CA2 := tHid (HA2.out w3 H3.out)
    clear HA1 HA2 c0 c1 c2 c3
    go_upto_region 4 with (first | (go_at_call 55; with_reducible refine CA2.out.mono ?_; rintro e w4 ⟨rfl, H4⟩))
    obtain ⟨e0, e1, e2, e3⟩ := HB.out w4 H4.out.any
    have CE := tHid (HEn.out w4 (HW0.out (by first | trivial | rfl) w4 H4.out))
    clear CA2 d0 d1 d2 d3 HEn HW0
    go_upto_region 5 with (first | (go_at_call 56; with_reducible refine CE.out.mono ?_; rintro e w5 ⟨⟨r5, rfl⟩, H5⟩))
    obtain ⟨k0, k1, k2, k3⟩ := HB.out w5 (HBN2.out w5 H5.out)
    have CL := tHid (HLv.out w5 H5.out)
    clear CE e0 e1 e2 e3 HLv HB HBN HBN2 H3 H4 H5
    go_wp2_with (first | (go_at_call 77; with_reducible refine CL.out.mono ?_; rintro e w6 ⟨⟨r6, rfl⟩, HF⟩))
    go_end0
    exact HF.out _
  | some z =>
    obtain ⟨y, py⟩ := z
    obtain ⟨hpn, hy0, _⟩ := id hw
    have hyb : (y != 0) = true := by simp [hy0]
    rw [hpn] at HA2
    have HW1 := tHid (HW.out y py rfl)
    clear H hP hV2 hN2 hs1 hsz2 hfm hd hkd hfd ht hkt hw ht1 hk1 hf1 hn1 hx1 htx hl1 hd2 hk2 hf2 hx2 hdx hl2 hh2 hLd hS1 hS2 HW HW0 hpn hs hs2 hd64 ht64 hx64
    generalize mk s = ss at *
    generalize mk s2 = ss2 at *
    go_enter Tryz.func62, Tryz.ntmps62
    go_upto_region 1 with fail
    rw [← HV.out]
    clear HV
    go_upto_region 2 with (first | (go_at_call 55; with_reducible refine HA1.out.mono ?_; rintro e w3 ⟨rfl, H3⟩))
    obtain ⟨d0, d1, d2, d3⟩ := HB.out w3 H3.out.any
    have CA2 : Hid (Calls Tryz.prog 55 #[.pointer (some ⟨fb, 0, none⟩), .agg #[.int .i64 t, .string ss2]] w3 fun e w' => e = .returned (.int .i64 y) ∧ Hid (Nw V2 w')) := HA2.out w3 H3.out
    clear HA1 HA2 c0 c1 c2 c3
    go_upto_region 3 with (first | (go_at_call 55; with_reducible refine CA2.out.mono ?_; rintro e w4 ⟨rfl, H4⟩))
    obtain ⟨e0, e1, e2, e3⟩ := HB.out w4 H4.out.any
    have CW := tHid (HW1.out w4 H4.out)
    clear CA2 d0 d1 d2 d3 HW1
    go_upto_region 4 with (first | (go_at_call 77; with_reducible refine CW.out.mono ?_; rintro e w7 ⟨⟨r7, rfl⟩, H7⟩))
    obtain ⟨n0, n1, n2, n3⟩ := HB.out w7 (HBN.out w7 H7.out)
    have CE := tHid (HEn.out w7 H7.out)
    clear CW e0 e1 e2 e3 HEn
    go_upto_region 5 with (first | (go_at_call 56; with_reducible refine CE.out.mono ?_; rintro e w5 ⟨⟨r5, rfl⟩, H5⟩))
    obtain ⟨k0, k1, k2, k3⟩ := HB.out w5 (HBN2.out w5 H5.out)
    have CL := tHid (HLv.out w5 H5.out)
    clear CE n0 n1 n2 n3 HLv HB HBN HBN2 H3 H4 H5 H7
    go_wp2_with (first | (go_at_call 77; with_reducible refine CL.out.mono ?_; rintro e w6 ⟨⟨r6, rfl⟩, HF⟩))
    go_end0
    exact HF.out _
end Go.Proofs.YtcogkhcfpgelhabGreat

namespace Go.Proofs.YtcogkhcfpgelhabGreat
open Go.RowKit
set_option linter.unusedVariables false
/-! ### Sums over an image's inodes -/
def sumF (g : Nd → Nat) (l : List Nd) : Nat := (l.map g).sum
theorem sumF_append (g : Nd → Nat) (l m : List Nd) : sumF g (l ++ m) = sumF g l + sumF g m := by
  unfold sumF
  rw [List.map_append, List.sum_append]
abbrev Srt (l : List Nd) : Prop := l.Pairwise (fun a b => a.num < b.num)
theorem updL_not (l : List Nd) (n : Int) (f : Nd → Nd) (h : ∀ x ∈ l, x.num ≠ n) : updL l n f = l := by
  unfold updL
  conv => rhs; rw [← List.map_id l]
  apply List.map_congr_left
  intro x hx
  rw [if_neg (h x hx)]; rfl
theorem dropL_not (l : List Nd) (n : Int) (h : ∀ x ∈ l, x.num ≠ n) : dropL l n = l := by
  unfold dropL
  rw [List.filter_eq_self]
  intro x hx
  simp [h x hx]
theorem sumF_updL (g : Nd → Nat) {l : List Nd} (hs : Srt l) {n : Int} {x : Nd} (hx : get l n = some x) (f : Nd → Nd) : sumF g (updL l n f) + g x = sumF g l + g (f x) := by
  induction l with
  | nil => cases hx
  | cons y r ih =>
    rw [Srt, List.pairwise_cons] at hs
    by_cases hy : y.num = n
    · have : y = x := by
        unfold get at hx
        rw [List.find?_cons, decide_eq_true hy] at hx
        injection hx
      subst this
      have hr : updL r n f = r := updL_not r n f (fun z hz e => by have := hs.1 z hz; omega)
      have e : updL (y :: r) n f = f y :: r := by
        show (if y.num = n then f y else y) :: updL r n f = _
        rw [if_pos hy, hr]
      rw [e]
      unfold sumF
      simp only [List.map_cons, List.sum_cons]
      omega
    · have hx' : get r n = some x := by
        unfold get at hx ⊢
        rw [List.find?_cons, decide_eq_false hy] at hx
        exact hx
      have := ih hs.2 hx'
      have e : updL (y :: r) n f = y :: updL r n f := by
        show (if y.num = n then f y else y) :: updL r n f = _
        rw [if_neg hy]
      rw [e]
      unfold sumF at *
      simp only [List.map_cons, List.sum_cons]
      omega
theorem sumF_dropL (g : Nd → Nat) {l : List Nd} (hs : Srt l) {n : Int} {x : Nd} (hx : get l n = some x) : sumF g (dropL l n) + g x = sumF g l := by
  induction l with
  | nil => cases hx
  | cons y r ih =>
    rw [Srt, List.pairwise_cons] at hs
    by_cases hy : y.num = n
    · have : y = x := by
        unfold get at hx
        rw [List.find?_cons, decide_eq_true hy] at hx
        injection hx
      subst this
      have hr : dropL r n = r := dropL_not r n (fun z hz e => by have := hs.1 z hz; omega)
      have e : dropL (y :: r) n = r := by
        unfold dropL at hr ⊢
        rw [List.filter_cons, decide_eq_true hy]
        exact hr
      rw [e]
      unfold sumF
      simp only [List.map_cons, List.sum_cons]
      omega
    · have hx' : get r n = some x := by
        unfold get at hx ⊢
        rw [List.find?_cons, decide_eq_false hy] at hx
        exact hx
      have := ih hs.2 hx'
      have e : dropL (y :: r) n = y :: dropL r n := by
        unfold dropL
        rw [List.filter_cons, decide_eq_false hy]; rfl
      rw [e]
      unfold sumF at *
      simp only [List.map_cons, List.sum_cons]
      omega
theorem lkS_sum (l : List Nd) (n : Int) : lkS l n = sumF (fun x => nameN x.ents n) l := rfl
theorem heldF_sum (l : List Nd) : heldF l = sumF (fun x => x.data.length) l := rfl
theorem len_sum (l : List Nd) : l.length = sumF (fun _ => 1) l := by
  unfold sumF
  induction l with
  | nil => rfl
  | cons x r ih => simp only [List.length_cons, List.map_cons, List.sum_cons]; omega
theorem sumF_mem (g : Nd → Nat) {l : List Nd} {x : Nd} (hx : x ∈ l) : g x ≤ sumF g l := by
  induction l with
  | nil => cases hx
  | cons y r ih =>
    unfold sumF at *
    simp only [List.map_cons, List.sum_cons]
    rcases List.mem_cons.1 hx with rfl | hx
    · omega
    · have := ih hx; omega
theorem sumF_pos {g : Nd → Nat} {l : List Nd} (h : 0 < sumF g l) : ∃ x ∈ l, 0 < g x := by
  induction l with
  | nil => simp [sumF] at h
  | cons y r ih =>
    by_cases hy : 0 < g y
    · exact ⟨y, List.mem_cons_self .., hy⟩
    · unfold sumF at h ih
      simp only [List.map_cons, List.sum_cons] at h
      obtain ⟨x, hx, hg⟩ := ih (by omega)
      exact ⟨x, List.mem_cons_of_mem _ hx, hg⟩
theorem sumF_two {g : Nd → Nat} {l : List Nd} (hs : Srt l) {x y : Nd} (hx : x ∈ l) (hy : y ∈ l) (hne : x.num ≠ y.num) : g x + g y ≤ sumF g l := by
  have h1 := sumF_dropL g hs (get_mem hs hx)
  have h2 : y ∈ dropL l x.num := by
    unfold dropL
    rw [List.mem_filter]
    exact ⟨hy, by simp [Ne.symm hne]⟩
  have := sumF_mem g h2
  omega
theorem nameN_pos {es : List (Tx × Int)} {n : Int} : 0 < nameN es n ↔ ∃ e ∈ es, e.2 = n := by
  unfold nameN
  rw [List.length_pos_iff_exists_mem]
  constructor
  · rintro ⟨e, he⟩
    rw [List.mem_filter] at he
    exact ⟨e, he.1, by simpa using he.2⟩
  · rintro ⟨e, he, hn⟩
    exact ⟨e, by rw [List.mem_filter]; exact ⟨he, by simpa using hn⟩⟩
theorem nameN_nil (n : Int) : nameN [] n = 0 := rfl
/-! ### Order -/
theorem srt_updL {l : List Nd} (hs : Srt l) (n : Int) {f : Nd → Nd} (hf : ∀ x, (f x).num = x.num) : Srt (updL l n f) := by
  unfold updL
  rw [Srt, List.pairwise_map]
  refine hs.imp ?_
  intro a b hab
  have e : ∀ x : Nd, (if x.num = n then f x else x).num = x.num := fun x => by split <;> simp [hf]
  rw [e, e]; exact hab
theorem srt_dropL {l : List Nd} (hs : Srt l) (n : Int) : Srt (dropL l n) := hs.filter _
theorem mem_updL {l : List Nd} {n : Int} {f : Nd → Nd} {y : Nd} (h : y ∈ updL l n f) : ∃ x ∈ l, (x.num = n ∧ y = f x) ∨ (x.num ≠ n ∧ y = x) := by
  unfold updL at h
  rw [List.mem_map] at h
  obtain ⟨x, hx, rfl⟩ := h
  refine ⟨x, hx, ?_⟩
  by_cases hn : x.num = n
  · exact .inl ⟨hn, by rw [if_pos hn]⟩
  · exact .inr ⟨hn, by rw [if_neg hn]⟩
theorem updL_mem {l : List Nd} {n : Int} {f : Nd → Nd} {x : Nd} (h : x ∈ l) : (if x.num = n then f x else x) ∈ updL l n f := List.mem_map.2 ⟨x, h, rfl⟩
theorem mem_dropL {l : List Nd} {n : Int} {y : Nd} : y ∈ dropL l n ↔ y ∈ l ∧ y.num ≠ n := by
  unfold dropL
  rw [List.mem_filter]
  simp
theorem len_updL (l : List Nd) (n : Int) (f : Nd → Nd) : (updL l n f).length = l.length := by simp [updL]
theorem get_num {l : List Nd} {k : Int} {x : Nd} (h : get l k = some x) : x.num = k := (get_some h).2
/-! ### Whose entry names a directory -/
def nmsB (x : Nd) (n : Int) : Bool := x.ents.any (fun e => decide (e.2 = n))
theorem nmsB_iff {x : Nd} {n : Int} : nmsB x n = true ↔ 0 < nameN x.ents n := by
  rw [nameN_pos]
  unfold nmsB
  rw [List.any_eq_true]
  constructor
  · rintro ⟨e, he, h⟩; exact ⟨e, he, by simpa using h⟩
  · rintro ⟨e, he, h⟩; exact ⟨e, he, by simpa using h⟩
theorem upF_def (l : List Nd) (n : Int) : upF l n = ((l.find? (nmsB · n)).map (·.num)).getD 1 := rfl
theorem upF_of {l : List Nd} {n d : Int} (h1 : ∃ x ∈ l, nmsB x n = true) (h2 : ∀ x ∈ l, nmsB x n = true → x.num = d) : upF l n = d := by
  rw [upF_def]
  cases hf : l.find? (nmsB · n) with
  | none =>
    obtain ⟨x, hx, hn⟩ := h1
    rw [List.find?_eq_none] at hf
    exact absurd hn (hf x hx)
  | some x => exact h2 x (List.mem_of_find?_eq_some hf) (List.find?_some (p := (nmsB · n)) hf)
theorem upF_none {l : List Nd} {n : Int} (h : ∀ x ∈ l, nmsB x n = false) : upF l n = 1 := by
  rw [upF_def]
  have : l.find? (nmsB · n) = none := by
    rw [List.find?_eq_none]
    intro x hx; rw [h x hx]; simp
  rw [this]; rfl
theorem upF_updL {l : List Nd} {k n : Int} {f : Nd → Nd} (hf : ∀ x, (f x).num = x.num) (h : ∀ x ∈ l, x.num = k → nmsB (f x) n = nmsB x n) : upF (updL l k f) n = upF l n := by
  rw [upF_def, upF_def]
  induction l with
  | nil => rfl
  | cons x r ih =>
    have ih := ih (fun y hy => h y (List.mem_cons_of_mem _ hy))
    have e : updL (x :: r) k f = (if x.num = k then f x else x) :: updL r k f := rfl
    rw [e, List.find?_cons, List.find?_cons]
    by_cases hx : x.num = k
    · rw [if_pos hx, h x (List.mem_cons_self ..) hx]
      cases nmsB x n with
      | true => simp [hf]
      | false => exact ih
    · rw [if_neg hx]
      cases nmsB x n with
      | true => rfl
      | false => exact ih
theorem upF_append {l : List Nd} {y : Nd} {n : Int} (h : nmsB y n = false) : upF (l ++ [y]) n = upF l n := by
  rw [upF_def, upF_def, List.find?_append]
  cases l.find? (nmsB · n) with
  | none => simp [h]
  | some x => rfl
theorem upF_dropL {l : List Nd} {k n : Int} (h : ∀ x ∈ l, x.num = k → nmsB x n = false) : upF (dropL l k) n = upF l n := by
  rw [upF_def, upF_def]
  induction l with
  | nil => rfl
  | cons x r ih =>
    have ih := ih (fun y hy => h y (List.mem_cons_of_mem _ hy))
    by_cases hx : x.num = k
    · have e : dropL (x :: r) k = dropL r k := by
        unfold dropL
        rw [List.filter_cons, decide_eq_true hx]; rfl
      rw [e, List.find?_cons, h x (List.mem_cons_self ..) hx]
      exact ih
    · have e : dropL (x :: r) k = x :: dropL r k := by
        unfold dropL
        rw [List.filter_cons, decide_eq_false hx]; rfl
      rw [e, List.find?_cons, List.find?_cons]
      cases nmsB x n with
      | true => rfl
      | false => exact ih
/-! ### An image's inodes as the program has them -/
def pnOf (l : List Nd) (x : Nd) : Pn := ⟨x.kind, x.mt, x.data, x.tgt, entL x.ents, x.ents.length, (lks l x.num : Int), if x.kind = 1 then upF l x.num else 0⟩
def qOf (l : List Nd) (k : Int) : Option Pn := (get l k).map (pnOf l)
def hOf (X : Im) : Hx := ⟨X.nodes, X.bytes, heldF X.l, X.next⟩
theorem qOf_some {l : List Nd} {k : Int} {p : Pn} (h : qOf l k = some p) : ∃ x, get l k = some x ∧ x ∈ l ∧ x.num = k ∧ p = pnOf l x := by
  unfold qOf at h
  cases hg : get l k with
  | none => rw [hg] at h; cases h
  | some x =>
    rw [hg] at h
    injection h with h
    exact ⟨x, rfl, (get_some hg).1, (get_some hg).2, h.symm⟩
theorem qOf_none {l : List Nd} {k : Int} (h : qOf l k = none) : get l k = none := by
  unfold qOf at h
  cases hg : get l k with
  | none => rfl
  | some x => rw [hg] at h; cases h
theorem qOf_get {l : List Nd} {k : Int} {x : Nd} (h : get l k = some x) : qOf l k = some (pnOf l x) := by unfold qOf; rw [h]; rfl
/-- An entry put into a directory. -/
def putE (l : List Nd) (d : Int) (s : Tx) (n : Int) : List Nd := updL l d (fun x => { x with ents := insE s n x.ents })
/-- An entry taken away. -/
def rmvE (l : List Nd) (d : Int) (s : Tx) : List Nd := updL l d (fun x => { x with ents := delE s x.ents })
/-- And the inode with the last one. -/
def leaL (l : List Nd) (d : Int) (s : Tx) (n : Int) : List Nd := if lks (rmvE l d s) n = 0 then dropL (rmvE l d s) n else rmvE l d s
theorem lkS_putE {l : List Nd} (hs : Srt l) {d n : Int} {x : Nd} (hd : get l d = some x) (s : Tx) (k : Int) : lkS (putE l d s n) k = lkS l k + if n = k then 1 else 0 := by
  have := sumF_updL (fun x => nameN x.ents k) hs hd (fun x => { x with ents := insE s n x.ents })
  simp only [nameN_insE] at this
  rw [lkS_sum, lkS_sum]
  unfold putE
  omega
theorem lks_putE {l : List Nd} (hs : Srt l) {d n : Int} {x : Nd} (hd : get l d = some x) (s : Tx) (k : Int) : lks (putE l d s n) k = lks l k + if n = k then 1 else 0 := by
  unfold lks
  rw [lkS_putE hs hd]; omega
theorem lkS_rmvE {l : List Nd} (hs : Srt l) {d n : Int} {x : Nd} (hd : get l d = some x) (hx : x.ents.Pairwise (fun a b => lt a.1 b.1 = true)) {s : Tx} (he : entL x.ents s = some n) (k : Int) : lkS (rmvE l d s) k + (if n = k then 1 else 0) = lkS l k := by
  have := sumF_updL (fun x => nameN x.ents k) hs hd (fun x => { x with ents := delE s x.ents })
  have h2 := nameN_delE hx s k
  rw [he] at h2
  simp only [Option.some.injEq] at h2
  rw [lkS_sum, lkS_sum]
  unfold rmvE
  simp only at this
  omega
theorem lks_rmvE {l : List Nd} (hs : Srt l) {d n : Int} {x : Nd} (hd : get l d = some x) (hx : x.ents.Pairwise (fun a b => lt a.1 b.1 = true)) {s : Tx} (he : entL x.ents s = some n) (k : Int) : lks (rmvE l d s) k + (if n = k then 1 else 0) = lks l k := by
  unfold lks
  have := lkS_rmvE hs hd hx he k
  omega
theorem get_putE (l : List Nd) (d : Int) (s : Tx) (n k : Int) : get (putE l d s n) k = if k = d then (get l k).map (fun x => { x with ents := insE s n x.ents }) else get l k := get_updL l d k _ (fun _ => rfl)
theorem get_rmvE (l : List Nd) (d : Int) (s : Tx) (k : Int) : get (rmvE l d s) k = if k = d then (get l k).map (fun x => { x with ents := delE s x.ents }) else get l k := get_updL l d k _ (fun _ => rfl)
theorem nmsB_insE (x : Nd) (s : Tx) {n k : Int} (h : n ≠ k) : nmsB { x with ents := insE s n x.ents } k = nmsB x k := by
  rw [Bool.eq_iff_iff, nmsB_iff, nmsB_iff]
  simp only [nameN_insE]
  rw [if_neg h]; simp
theorem nmsB_delE {x : Nd} (hx : x.ents.Pairwise (fun a b => lt a.1 b.1 = true)) {s : Tx} {n k : Int} (he : entL x.ents s = some n) (h : n ≠ k) : nmsB { x with ents := delE s x.ents } k = nmsB x k := by
  rw [Bool.eq_iff_iff, nmsB_iff, nmsB_iff]
  have h2 := nameN_delE hx s k
  rw [he] at h2
  simp only [Option.some.injEq] at h2
  rw [if_neg h] at h2
  simp only
  omega
end Go.Proofs.YtcogkhcfpgelhabGreat

namespace Go.Proofs.YtcogkhcfpgelhabGreat
open Go.RowKit
set_option linter.unusedVariables false
/-! ### Well formed but for one inode's names -/
structure WFx (X : Im) (n : Int) : Prop where
  n1 : 1 ≤ X.nodes
  n2 : X.nodes ≤ 4096
  b1 : 0 ≤ X.bytes
  b2 : X.bytes ≤ 4194304
  x1 : 2 ≤ X.next
  x2 : X.next ≤ 1099511627776
  srt : X.l.Pairwise (fun a b => a.num < b.num)
  rt : ∃ r t, X.l = r :: t ∧ r.num = 1 ∧ r.kind = 1
  nums : ∀ x ∈ X.l, 1 ≤ x.num ∧ x.num < X.next
  len : (X.l.length : Int) ≤ X.nodes
  kinds : ∀ x ∈ X.l, NdOk x
  held : (heldF X.l : Int) ≤ X.bytes
  es : ∀ x ∈ X.l, ∀ e ∈ x.ents, nmOk e.1 = true ∧ e.2 ≠ 1 ∧ ∃ y ∈ X.l, y.num = e.2
  esrt : ∀ x ∈ X.l, x.ents.Pairwise (fun a b => lt a.1 b.1 = true)
  lk1 : ∀ x ∈ X.l, x.num ≠ n → 1 ≤ lks X.l x.num
  lkd : ∀ x ∈ X.l, x.num ≠ n → x.kind = 1 → lks X.l x.num = 1
  rk : ∃ rk : Int → Nat, ∀ x ∈ X.l, ∀ e ∈ x.ents, ∀ y ∈ X.l, y.num = e.2 → y.kind = 1 → rk x.num < rk y.num
theorem WF.x {X : Im} (h : WF X) (n : Int) : WFx X n := ⟨h.n1, h.n2, h.b1, h.b2, h.x1, h.x2, h.srt, h.rt, h.nums, h.len, h.kinds, h.held, h.es, h.esrt, fun x hx _ => h.lk1 x hx, fun x hx _ => h.lkd x hx, h.rk⟩
theorem wfx_full {X : Im} {n : Int} (h : WFx X n) {xn : Nd} (hn : get X.l n = some xn) (h1 : 1 ≤ lks X.l n) (h2 : xn.kind = 1 → lks X.l n = 1) : WF X := by
  refine ⟨h.n1, h.n2, h.b1, h.b2, h.x1, h.x2, h.srt, h.rt, h.nums, h.len, h.kinds, h.held, h.es, h.esrt, fun x hx => ?_, fun x hx hk => ?_, h.rk⟩
  · by_cases hxn : x.num = n
    · rw [hxn]; exact h1
    · exact h.lk1 x hx hxn
  · by_cases hxn : x.num = n
    · have := get_mem h.srt hx
      rw [hxn, hn] at this
      injection this with this
      rw [hxn]; exact h2 (by rw [this]; exact hk)
    · exact h.lkd x hx hxn hk
/-! ### What lies in a directory -/
def Ch (l : List Nd) (a b : Int) : Prop := ∃ x ∈ l, x.num = a ∧ nmsB x b = true ∧ ∃ y ∈ l, y.num = b ∧ y.kind = 1
inductive Sub (l : List Nd) (n : Int) : Int → Prop
  | refl : Sub l n n
  | step {a b : Int} : Sub l n a → Ch l a b → Sub l n b
theorem Sub.mono {l l' : List Nd} {n k : Int} (h : Sub l n k) (hc : ∀ a b, Ch l a b → Ch l' a b) : Sub l' n k := by
  induction h with
  | refl => exact .refl
  | step _ hab ih => exact ih.step (hc _ _ hab)
theorem Sub.leaf {l : List Nd} {n k : Int} (h : Sub l n k) (hn : ∀ x ∈ l, x.num = n → x.ents = []) : k = n := by
  induction h with
  | refl => rfl
  | step _ hab ih =>
    obtain ⟨x, hx, hxa, hb, _⟩ := hab
    rw [ih] at hxa
    unfold nmsB at hb
    rw [hn x hx hxa] at hb
    cases hb
/-! ### An entry more -/
theorem mem_putE {l : List Nd} {d n : Int} {s : Tx} {y : Nd} (h : y ∈ putE l d s n) : ∃ x ∈ l, x.num = y.num ∧ x.kind = y.kind ∧ x.mt = y.mt ∧ x.data = y.data ∧ x.tgt = y.tgt ∧ ((x.num = d ∧ y.ents = insE s n x.ents) ∨ (x.num ≠ d ∧ y = x)) := by
  obtain ⟨x, hx, h | h⟩ := mem_updL h
  · refine ⟨x, hx, ?_⟩
    obtain ⟨h1, rfl⟩ := h
    exact ⟨rfl, rfl, rfl, rfl, rfl, .inl ⟨h1, rfl⟩⟩
  · obtain ⟨h1, rfl⟩ := h
    exact ⟨y, hx, rfl, rfl, rfl, rfl, rfl, .inr ⟨h1, rfl⟩⟩
theorem putE_has {l : List Nd} {d n : Int} {s : Tx} {x : Nd} (h : x ∈ l) : ∃ y ∈ putE l d s n, y.num = x.num ∧ y.kind = x.kind := by
  refine ⟨_, updL_mem h, ?_⟩
  split <;> exact ⟨rfl, rfl⟩
theorem ndok_congr {x y : Nd} (hx : NdOk x) (h1 : x.kind = y.kind) (h2 : x.mt = y.mt) (h3 : x.data = y.data) (h4 : x.tgt = y.tgt) (h5 : y.kind ≠ 1 → y.ents = []) : NdOk y := by
  obtain ⟨m, h⟩ := hx
  rw [h2] at m
  rw [h1, h3, h4] at h
  refine ⟨m, ?_⟩
  rcases h with ⟨a, b, c⟩ | ⟨a, b, c, _⟩ | ⟨a, b, c, _⟩
  · exact .inl ⟨a, b, c⟩
  · exact .inr (.inl ⟨a, b, c, h5 (by rw [a]; decide)⟩)
  · exact .inr (.inr ⟨a, b, c, h5 (by rw [a]; decide)⟩)
theorem NdOk.noents {x : Nd} (h : NdOk x) (hk : x.kind ≠ 1) : x.ents = [] := by
  obtain ⟨_, h⟩ := h
  rcases h with ⟨a, _⟩ | ⟨_, _, _, a⟩ | ⟨_, _, _, a⟩
  · exact absurd a hk
  · exact a
  · exact a
theorem NdOk.nodata {x : Nd} (h : NdOk x) (hk : x.kind ≠ 2) : x.data = [] := by
  obtain ⟨_, h⟩ := h
  rcases h with ⟨_, a, _⟩ | ⟨a, _⟩ | ⟨_, a, _⟩
  · exact a
  · exact absurd a hk
  · exact a
theorem NdOk.len {x : Nd} (h : NdOk x) : x.data.length ≤ 4194304 := by
  obtain ⟨_, h⟩ := h
  rcases h with ⟨_, a, _⟩ | ⟨_, a, _⟩ | ⟨_, a, _⟩
  · rw [a]; simp
  · exact a
  · rw [a]; simp
theorem NdOk.tlen {x : Nd} (h : NdOk x) : x.tgt.length ≤ 4096 := by
  obtain ⟨_, h⟩ := h
  rcases h with ⟨_, _, a⟩ | ⟨_, _, a, _⟩ | ⟨_, _, a, _⟩
  · rw [a]; simp
  · rw [a]; simp
  · unfold tgOk at a
    simp only [Bool.and_eq_true, decide_eq_true_eq] at a
    exact a.1.2
theorem root_upd {l : List Nd} (h : ∃ r t, l = r :: t ∧ r.num = 1 ∧ r.kind = 1) (n : Int) {f : Nd → Nd} (hf : ∀ x, (f x).num = x.num ∧ (f x).kind = x.kind) : ∃ r t, updL l n f = r :: t ∧ r.num = 1 ∧ r.kind = 1 := by
  obtain ⟨r, t, rfl, h1, h2⟩ := h
  refine ⟨if r.num = n then f r else r, updL t n f, rfl, ?_, ?_⟩
  · split
    · rw [(hf r).1]; exact h1
    · exact h1
  · split
    · rw [(hf r).2]; exact h2
    · exact h2
theorem held_updL {l : List Nd} (n : Int) {f : Nd → Nd} (hf : ∀ x, (f x).data = x.data) : heldF (updL l n f) = heldF l := by
  unfold heldF updL
  rw [List.map_map]
  congr 1
  apply List.map_congr_left
  intro x _
  simp only [Function.comp]
  split
  · rw [hf]
  · rfl
open Classical in
theorem wfx_put {X : Im} {n : Int} (h : WFx X n) {d : Int} {s : Tx} {xd xn : Nd} (hd : get X.l d = some xd) (hk : xd.kind = 1) (hs : nmOk s = true) (he : entL xd.ents s = none) (hn : get X.l n = some xn) (h1 : n ≠ 1) (hdir : xn.kind = 1 → lks X.l n = 0) (hsub : xn.kind = 1 → ¬ Sub X.l n d) : WF { X with l := putE X.l d s n } := by
  obtain ⟨xdm, xdn⟩ := get_some hd
  obtain ⟨xnm, xnn⟩ := get_some hn
  have lk := fun k => lks_putE h.srt (n := n) hd s k
  have uniq : ∀ x ∈ X.l, ∀ y ∈ X.l, x.num = y.num → x = y := fun x hx y hy e => by
    have a := get_mem h.srt hx
    have b := get_mem h.srt hy
    rw [e, b] at a
    injection a with a
    exact a.symm
  refine ⟨h.n1, h.n2, h.b1, h.b2, h.x1, h.x2, srt_updL h.srt d (fun _ => rfl), root_upd h.rt d (fun _ => ⟨rfl, rfl⟩), fun y hy => ?_, ?_, fun y hy => ?_, ?_, fun y hy e hee => ?_, fun y hy => ?_, fun y hy => ?_, fun y hy hyk => ?_, ?_⟩
  · obtain ⟨x, hx, e1, _⟩ := mem_putE hy
    rw [← e1]; exact h.nums x hx
  · show ((putE X.l d s n).length : Int) ≤ _
    unfold putE
    rw [len_updL]; exact h.len
  · obtain ⟨x, hx, e1, e2, e3, e4, e5, e6⟩ := mem_putE hy
    refine ndok_congr (h.kinds x hx) e2 e3 e4 e5 (fun hne => ?_)
    rcases e6 with ⟨e6, e7⟩ | ⟨e6, rfl⟩
    · have : x = xd := uniq x hx xd xdm (by rw [e6, xdn])
      rw [← e2, this] at hne
      exact absurd hk hne
    · exact (h.kinds y hx).noents hne
  · show (heldF (putE X.l d s n) : Int) ≤ _
    have e : heldF (putE X.l d s n) = heldF X.l := held_updL d (f := fun x => { x with ents := insE s n x.ents }) (fun _ => rfl)
    rw [e]; exact h.held
  · obtain ⟨x, hx, e1, e2, e3, e4, e5, e6⟩ := mem_putE hy
    have hold : e ∈ x.ents → nmOk e.1 = true ∧ e.2 ≠ 1 ∧ ∃ y ∈ putE X.l d s n, y.num = e.2 := fun hxe => by
      obtain ⟨a, b, z, hz, hzn⟩ := h.es x hx e hxe
      obtain ⟨z', hz', hzn', _⟩ := putE_has (d := d) (n := n) (s := s) hz
      exact ⟨a, b, z', hz', by rw [hzn', hzn]⟩
    rcases e6 with ⟨e6, e7⟩ | ⟨e6, rfl⟩
    · rw [e7] at hee
      rcases mem_insE.1 hee with rfl | hee
      · obtain ⟨z', hz', hzn', _⟩ := putE_has (d := d) (n := n) (s := s) xnm
        exact ⟨hs, h1, z', hz', by rw [hzn', xnn]⟩
      · exact hold hee
    · exact hold hee
  · obtain ⟨x, hx, e1, e2, e3, e4, e5, e6⟩ := mem_putE hy
    rcases e6 with ⟨e6, e7⟩ | ⟨e6, rfl⟩
    · have : x = xd := uniq x hx xd xdm (by rw [e6, xdn])
      rw [e7]
      exact insE_sorted (h.esrt x hx) (by rw [this]; exact he) n
    · exact h.esrt y hx
  · obtain ⟨x, hx, e1, _⟩ := mem_putE hy
    show 1 ≤ lks (putE X.l d s n) y.num
    rw [lk, ← e1]
    by_cases hxn : n = x.num
    · rw [if_pos hxn]; omega
    · have := h.lk1 x hx (fun e => hxn e.symm); omega
  · obtain ⟨x, hx, e1, e2, _⟩ := mem_putE hy
    show lks (putE X.l d s n) y.num = 1
    rw [lk, ← e1]
    by_cases hxn : n = x.num
    · have hxx : x = xn := uniq x hx xn xnm (by rw [xnn, ← hxn])
      have := hdir (by rw [← hxx, e2]; exact hyk)
      rw [if_pos hxn, ← hxn, this]
    · have := h.lkd x hx (fun e => hxn e.symm) (by rw [e2]; exact hyk)
      rw [if_neg hxn, this]
  · obtain ⟨rk, hrk⟩ := h.rk
    by_cases hnk : xn.kind = 1
    · have hns := hsub hnk
      refine ⟨fun k => if Sub X.l n k then rk k + rk d + 1 else rk k, fun y hy e hee z hz hze hzk => ?_⟩
      obtain ⟨x, hx, e1, e2, e3, e4, e5, e6⟩ := mem_putE hy
      obtain ⟨zo, hzo, f1, f2, _⟩ := mem_putE hz
      have hold : e ∈ x.ents → (if Sub X.l n y.num then rk y.num + rk d + 1 else rk y.num) < (if Sub X.l n z.num then rk z.num + rk d + 1 else rk z.num) := fun hxe => by
        have hr := hrk x hx e hxe zo hzo (by rw [f1, hze]) (by rw [f2, hzk])
        rw [e1, f1] at hr
        have hch : Ch X.l y.num z.num := ⟨x, hx, e1, by rw [nmsB_iff, nameN_pos]; exact ⟨e, hxe, hze.symm⟩, zo, hzo, f1, by rw [f2, hzk]⟩
        by_cases hsy : Sub X.l n y.num
        · have hsz : Sub X.l n z.num := hsy.step hch
          rw [if_pos hsy, if_pos hsz]; omega
        · rw [if_neg hsy]
          split <;> omega
      rcases e6 with ⟨e6, e7⟩ | ⟨e6, rfl⟩
      · rw [e7] at hee
        rcases mem_insE.1 hee with rfl | hee
        · have hyd : y.num = d := by rw [← e1, e6]
          have hzn : z.num = n := hze
          simp only [hyd, hzn]
          rw [if_neg hns, if_pos (Sub.refl)]; omega
        · exact hold hee
      · exact hold hee
    · refine ⟨rk, fun y hy e hee z hz hze hzk => ?_⟩
      obtain ⟨x, hx, e1, e2, e3, e4, e5, e6⟩ := mem_putE hy
      obtain ⟨zo, hzo, f1, f2, _⟩ := mem_putE hz
      have hold : e ∈ x.ents → rk y.num < rk z.num := fun hxe => by
        have hr := hrk x hx e hxe zo hzo (by rw [f1, hze]) (by rw [f2, hzk])
        rw [e1, f1] at hr; exact hr
      rcases e6 with ⟨e6, e7⟩ | ⟨e6, rfl⟩
      · rw [e7] at hee
        rcases mem_insE.1 hee with rfl | hee
        · have : zo = xn := uniq zo hzo xn xnm (by rw [f1, hze, xnn])
          rw [this] at f2
          exact absurd (f2.trans hzk) hnk
        · exact hold hee
      · exact hold hee
/-! ### An entry less -/
theorem mem_rmvE {l : List Nd} {d : Int} {s : Tx} {y : Nd} (h : y ∈ rmvE l d s) : ∃ x ∈ l, x.num = y.num ∧ x.kind = y.kind ∧ x.mt = y.mt ∧ x.data = y.data ∧ x.tgt = y.tgt ∧ (∀ e ∈ y.ents, e ∈ x.ents) ∧ ((x.num = d ∧ y.ents = delE s x.ents) ∨ (x.num ≠ d ∧ y = x)) := by
  obtain ⟨x, hx, h | h⟩ := mem_updL h
  · refine ⟨x, hx, ?_⟩
    obtain ⟨h1, rfl⟩ := h
    exact ⟨rfl, rfl, rfl, rfl, rfl, fun e he => (mem_delE he).1, .inl ⟨h1, rfl⟩⟩
  · obtain ⟨h1, rfl⟩ := h
    exact ⟨y, hx, rfl, rfl, rfl, rfl, rfl, fun e he => he, .inr ⟨h1, rfl⟩⟩
theorem rmvE_has {l : List Nd} {d : Int} {s : Tx} {x : Nd} (h : x ∈ l) : ∃ y ∈ rmvE l d s, y.num = x.num ∧ y.kind = x.kind := by
  refine ⟨_, updL_mem h, ?_⟩
  split <;> exact ⟨rfl, rfl⟩
theorem wf_rmv {X : Im} (h : WF X) {d n : Int} {s : Tx} {xd : Nd} (hd : get X.l d = some xd) (he : entL xd.ents s = some n) : WFx { X with l := rmvE X.l d s } n := by
  obtain ⟨xdm, xdn⟩ := get_some hd
  have lk := fun k => lks_rmvE h.srt hd (h.esrt xd xdm) he k
  refine ⟨h.n1, h.n2, h.b1, h.b2, h.x1, h.x2, srt_updL h.srt d (fun _ => rfl), root_upd h.rt d (fun _ => ⟨rfl, rfl⟩), fun y hy => ?_, ?_, fun y hy => ?_, ?_, fun y hy e hee => ?_, fun y hy => ?_, fun y hy hyn => ?_, fun y hy hyn hyk => ?_, ?_⟩
  · obtain ⟨x, hx, e1, _⟩ := mem_rmvE hy
    rw [← e1]; exact h.nums x hx
  · show ((rmvE X.l d s).length : Int) ≤ _
    unfold rmvE
    rw [len_updL]; exact h.len
  · obtain ⟨x, hx, e1, e2, e3, e4, e5, e6, _⟩ := mem_rmvE hy
    refine ndok_congr (h.kinds x hx) e2 e3 e4 e5 (fun hne => ?_)
    have := (h.kinds x hx).noents (by rw [e2]; exact hne)
    rw [List.eq_nil_iff_forall_not_mem]
    intro e hee
    have := e6 e hee
    rw [(h.kinds x hx).noents (by rw [e2]; exact hne)] at this
    cases this
  · show (heldF (rmvE X.l d s) : Int) ≤ _
    have e : heldF (rmvE X.l d s) = heldF X.l := held_updL d (f := fun x => { x with ents := delE s x.ents }) (fun _ => rfl)
    rw [e]; exact h.held
  · obtain ⟨x, hx, e1, e2, e3, e4, e5, e6, _⟩ := mem_rmvE hy
    obtain ⟨a, b, z, hz, hzn⟩ := h.es x hx e (e6 e hee)
    obtain ⟨z', hz', hzn', _⟩ := rmvE_has (d := d) (s := s) hz
    exact ⟨a, b, z', hz', by rw [hzn', hzn]⟩
  · obtain ⟨x, hx, e1, e2, e3, e4, e5, _, e6⟩ := mem_rmvE hy
    rcases e6 with ⟨e6, e7⟩ | ⟨e6, rfl⟩
    · rw [e7]; exact delE_sorted (h.esrt x hx) s
    · exact h.esrt y hx
  · obtain ⟨x, hx, e1, _⟩ := mem_rmvE hy
    have := lk y.num
    rw [if_neg (fun e => hyn e.symm)] at this
    have h2 := h.lk1 x hx
    rw [e1] at h2
    show 1 ≤ lks (rmvE X.l d s) y.num
    omega
  · obtain ⟨x, hx, e1, e2, _⟩ := mem_rmvE hy
    have := lk y.num
    rw [if_neg (fun e => hyn e.symm)] at this
    have h2 := h.lkd x hx (by rw [e2]; exact hyk)
    rw [e1] at h2
    show lks (rmvE X.l d s) y.num = 1
    omega
  · obtain ⟨rk, hrk⟩ := h.rk
    refine ⟨rk, fun y hy e hee z hz hze hzk => ?_⟩
    obtain ⟨x, hx, e1, e2, e3, e4, e5, e6, _⟩ := mem_rmvE hy
    obtain ⟨zo, hzo, f1, f2, _⟩ := mem_rmvE hz
    have hr := hrk x hx e (e6 e hee) zo hzo (by rw [f1, hze]) (by rw [f2, hzk])
    rw [e1, f1] at hr; exact hr
theorem lkS_dropL {l : List Nd} (hs : Srt l) {n : Int} {x : Nd} (hn : get l n = some x) (hx : x.ents = []) (k : Int) : lks (dropL l n) k = lks l k := by
  have := sumF_dropL (fun x => nameN x.ents k) hs hn
  simp only [hx, nameN_nil] at this
  unfold lks
  rw [lkS_sum, lkS_sum]
  omega
theorem wfx_drop {X : Im} {n : Int} (h : WFx X n) {xn : Nd} (hn : get X.l n = some xn) (h1 : n ≠ 1) (h0 : lks X.l n = 0) (hx : xn.ents = []) : WF { X with l := dropL X.l n } := by
  obtain ⟨xnm, xnn⟩ := get_some hn
  have lk := fun k => lkS_dropL h.srt hn hx k
  have hsub : ∀ y ∈ dropL X.l n, y ∈ X.l ∧ y.num ≠ n := fun y hy => mem_dropL.1 hy
  have hz : ∀ x ∈ X.l, ∀ e ∈ x.ents, e.2 ≠ n := fun x hxm e hee he => by
    have h2 : 0 < nameN x.ents n := nameN_pos.2 ⟨e, hee, he⟩
    have h3 := sumF_mem (fun x => nameN x.ents n) hxm
    unfold lks at h0
    rw [lkS_sum] at h0
    omega
  refine ⟨h.n1, h.n2, h.b1, h.b2, h.x1, h.x2, srt_dropL h.srt n, ?_, fun y hy => h.nums y (hsub y hy).1, ?_, fun y hy => h.kinds y (hsub y hy).1, ?_, fun y hy e hee => ?_, fun y hy => h.esrt y (hsub y hy).1, fun y hy => ?_, fun y hy hyk => ?_, ?_⟩
  · obtain ⟨r, t, e, r1, r2⟩ := h.rt
    refine ⟨r, dropL t n, ?_, r1, r2⟩
    show dropL X.l n = _
    rw [e]
    unfold dropL
    rw [List.filter_cons, decide_eq_false (by rw [r1]; exact fun e => h1 e.symm)]; rfl
  · have := h.len
    have h2 : (dropL X.l n).length ≤ X.l.length := List.length_filter_le _ _
    show ((dropL X.l n).length : Int) ≤ X.nodes
    omega
  · have := sumF_dropL (fun x => x.data.length) h.srt hn
    have h2 := h.held
    show (heldF (dropL X.l n) : Int) ≤ X.bytes
    have e1 : heldF (dropL X.l n) = sumF (fun x => x.data.length) (dropL X.l n) := rfl
    have e2 : heldF X.l = sumF (fun x => x.data.length) X.l := rfl
    omega
  · obtain ⟨a, b, z, hzm, hzn⟩ := h.es y (hsub y hy).1 e hee
    exact ⟨a, b, z, mem_dropL.2 ⟨hzm, by rw [hzn]; exact hz y (hsub y hy).1 e hee⟩, hzn⟩
  · show 1 ≤ lks (dropL X.l n) y.num
    rw [lk]; exact h.lk1 y (hsub y hy).1 (hsub y hy).2
  · show lks (dropL X.l n) y.num = 1
    rw [lk]; exact h.lkd y (hsub y hy).1 (hsub y hy).2 hyk
  · obtain ⟨rk, hrk⟩ := h.rk
    exact ⟨rk, fun y hy e hee z hz hze hzk => hrk y (hsub y hy).1 e hee z (hsub z hz).1 hze hzk⟩
/-! ### An inode more -/
theorem get_fresh {X : Im} (h : ∀ x ∈ X.l, 1 ≤ x.num ∧ x.num < X.next) : get X.l X.next = none := get_none.2 (fun x hx e => by have := h x hx; omega)
theorem lks_append (l : List Nd) {y : Nd} (hy : y.ents = []) (k : Int) : lks (l ++ [y]) k = lks l k := by
  unfold lks
  rw [lkS_sum, lkS_sum, sumF_append]
  simp [sumF, hy, nameN_nil]
theorem lks_fresh {X : Im} (h : WF X) : lks X.l X.next = 0 := by
  have h1 := h.x1
  unfold lks
  rw [if_neg (by omega)]
  rw [lkS_sum]
  by_cases hz : 0 < sumF (fun x => nameN x.ents X.next) X.l
  · obtain ⟨x, hx, hg⟩ := sumF_pos hz
    obtain ⟨e, he, he2⟩ := nameN_pos.1 hg
    obtain ⟨_, _, y, hy, hyn⟩ := h.es x hx e he
    have := h.nums y hy
    omega
  · omega
theorem wf_app {X : Im} (h : WF X) {y : Nd} (hy : y.num = X.next) (hok : NdOk y) (he : y.ents = []) (hd : y.data = []) (hl : (X.l.length : Int) < X.nodes) (hn : X.next < 1099511627776) : WFx { X with next := X.next + 1, l := X.l ++ [y] } X.next := by
  have h1 := h.x1
  have hin : ∀ z ∈ X.l ++ [y], z ∈ X.l ∨ z = y := fun z hz => by
    rw [List.mem_append] at hz
    rcases hz with hz | hz
    · exact .inl hz
    · exact .inr (by simpa using hz)
  refine ⟨h.n1, h.n2, h.b1, h.b2, by show 2 ≤ X.next + 1; omega, by show X.next + 1 ≤ _; omega, ?_, ?_, fun z hz => ?_, ?_, fun z hz => ?_, ?_, fun z hz e hee => ?_, fun z hz => ?_, fun z hz hzn => ?_, fun z hz hzn hzk => ?_, ?_⟩
  · rw [List.pairwise_append]
    refine ⟨h.srt, List.pairwise_singleton .., fun a ha b hb => ?_⟩
    have : b = y := by simpa using hb
    rw [this, hy]
    exact (h.nums a ha).2
  · obtain ⟨r, t, e, r1, r2⟩ := h.rt
    exact ⟨r, t ++ [y], by show X.l ++ [y] = _; rw [e]; rfl, r1, r2⟩
  · show 1 ≤ z.num ∧ z.num < X.next + 1
    rcases hin z hz with hz | rfl
    · have := h.nums z hz; omega
    · omega
  · show ((X.l ++ [y]).length : Int) ≤ X.nodes
    rw [List.length_append]; simp; omega
  · rcases hin z hz with hz | rfl
    · exact h.kinds z hz
    · exact hok
  · have := h.held
    show (heldF (X.l ++ [y]) : Int) ≤ X.bytes
    have e1 : heldF (X.l ++ [y]) = heldF X.l := by
      rw [heldF_sum, heldF_sum, sumF_append]
      simp [sumF, hd]
    rw [e1]
    exact this
  · rcases hin z hz with hz | rfl
    · obtain ⟨a, b, v, hv, hvn⟩ := h.es z hz e hee
      exact ⟨a, b, v, List.mem_append_left _ hv, hvn⟩
    · rw [he] at hee; cases hee
  · rcases hin z hz with hz | rfl
    · exact h.esrt z hz
    · rw [he]; exact .nil
  · show 1 ≤ lks (X.l ++ [y]) z.num
    rw [lks_append _ he]
    rcases hin z hz with hz | rfl
    · exact h.lk1 z hz
    · exact absurd hy hzn
  · show lks (X.l ++ [y]) z.num = 1
    rw [lks_append _ he]
    rcases hin z hz with hz | rfl
    · exact h.lkd z hz hzk
    · exact absurd hy hzn
  · obtain ⟨rk, hrk⟩ := h.rk
    have hnew : ∀ z ∈ X.l, ∀ e ∈ z.ents, e.2 ≠ X.next := fun z hz e hee h2 => by
      obtain ⟨_, _, v, hv, hvn⟩ := h.es z hz e hee
      have := h.nums v hv
      omega
    refine ⟨rk, fun z hz e hee v hv hve hvk => ?_⟩
    rcases hin z hz with hz2 | rfl
    · rcases hin v hv with hv2 | rfl
      · exact hrk z hz2 e hee v hv2 hve hvk
      · exact absurd (hve.symm.trans hy) (hnew z hz2 e hee)
    · rw [he] at hee; cases hee
/-! ### Another content -/
theorem wf_upd {X : Im} (h : WF X) {n : Int} {xn : Nd} (hn : get X.l n = some xn) {f : Nd → Nd} (f1 : ∀ x, (f x).num = x.num) (f2 : ∀ x, (f x).kind = x.kind) (f3 : ∀ x, (f x).ents = x.ents) (hok : NdOk (f xn)) (hh : (heldF (updL X.l n f) : Int) ≤ X.bytes) : WF { X with l := updL X.l n f } := by
  obtain ⟨xnm, xnn⟩ := get_some hn
  have hm : ∀ y ∈ updL X.l n f, ∃ x ∈ X.l, y.num = x.num ∧ y.kind = x.kind ∧ y.ents = x.ents ∧ NdOk y := fun y hy => by
    obtain ⟨x, hx, h1 | h1⟩ := mem_updL hy
    · obtain ⟨h1, rfl⟩ := h1
      have : x = xn := h.uniq hx xnm (by rw [h1, xnn])
      exact ⟨x, hx, f1 x, f2 x, f3 x, by rw [this]; exact hok⟩
    · obtain ⟨h1, rfl⟩ := h1
      exact ⟨y, hx, rfl, rfl, rfl, h.kinds y hx⟩
  have hb : ∀ x ∈ X.l, ∃ y ∈ updL X.l n f, y.num = x.num := fun x hx => ⟨_, updL_mem hx, by split; exact f1 x; rfl⟩
  have lk : ∀ k, lks (updL X.l n f) k = lks X.l k := fun k => by
    have := sumF_updL (fun x => nameN x.ents k) h.srt hn f
    simp only [f3] at this
    unfold lks
    rw [lkS_sum, lkS_sum]
    omega
  refine ⟨h.n1, h.n2, h.b1, h.b2, h.x1, h.x2, srt_updL h.srt n f1, root_upd h.rt n (fun x => ⟨f1 x, f2 x⟩), fun y hy => ?_, ?_, fun y hy => ?_, hh, fun y hy e hee => ?_, fun y hy => ?_, fun y hy => ?_, fun y hy hyk => ?_, ?_⟩
  · obtain ⟨x, hx, e1, _⟩ := hm y hy
    rw [e1]; exact h.nums x hx
  · show ((updL X.l n f).length : Int) ≤ _
    rw [len_updL]; exact h.len
  · obtain ⟨x, hx, _, _, _, e⟩ := hm y hy
    exact e
  · obtain ⟨x, hx, e1, e2, e3, _⟩ := hm y hy
    rw [e3] at hee
    obtain ⟨a, b, v, hv, hvn⟩ := h.es x hx e hee
    obtain ⟨v', hv', hvn'⟩ := hb v hv
    exact ⟨a, b, v', hv', by rw [hvn', hvn]⟩
  · obtain ⟨x, hx, e1, e2, e3, _⟩ := hm y hy
    rw [e3]; exact h.esrt x hx
  · obtain ⟨x, hx, e1, _⟩ := hm y hy
    show 1 ≤ lks (updL X.l n f) y.num
    rw [lk, e1]; exact h.lk1 x hx
  · obtain ⟨x, hx, e1, e2, _⟩ := hm y hy
    show lks (updL X.l n f) y.num = 1
    rw [lk, e1]; exact h.lkd x hx (by rw [← e2]; exact hyk)
  · obtain ⟨rk, hrk⟩ := h.rk
    refine ⟨rk, fun y hy e hee v hv hve hvk => ?_⟩
    obtain ⟨x, hx, e1, e2, e3, _⟩ := hm y hy
    obtain ⟨u, hu, g1, g2, _⟩ := hm v hv
    rw [e1, g1]
    exact hrk x hx e (by rw [← e3]; exact hee) u hu (by rw [← g1, hve]) (by rw [← g2, hvk])
end Go.Proofs.YtcogkhcfpgelhabGreat

namespace Go.Proofs.YtcogkhcfpgelhabGreat
open Go.RowKit
set_option linter.unusedVariables false
theorem nmsB_none {l : List Nd} {n : Int} (h : lks l n = 0) : ∀ x ∈ l, nmsB x n = false := fun x hx => by
  have h2 := sumF_mem (fun x => nameN x.ents n) hx
  unfold lks at h
  rw [lkS_sum] at h
  cases hb : nmsB x n with
  | false => rfl
  | true =>
    have := nmsB_iff.1 hb
    omega
theorem insE_fun {es : List (Tx × Int)} {s : Tx} (n : Int) (h : entL es s = none) : entL (insE s n es) = fun x => if x = s then some n else entL es x := funext fun k => entL_insE es s n h k
theorem delE_fun (es : List (Tx × Int)) (s : Tx) : entL (delE s es) = fun x => if x = s then none else entL es x := funext fun k => entL_delE es s k
theorem pnOf_eq {l l' : List Nd} {x : Nd} (h1 : lks l' x.num = lks l x.num) (h2 : x.kind = 1 → upF l' x.num = upF l x.num) : pnOf l' x = pnOf l x := by
  unfold pnOf
  rw [h1]
  by_cases hk : x.kind = 1
  · rw [if_pos hk, if_pos hk, h2 hk]
  · rw [if_neg hk, if_neg hk]
theorem q_putE {l : List Nd} (hs : Srt l) {d n : Int} {s : Tx} {xd xn : Nd} (hd : get l d = some xd) (he : entL xd.ents s = none) (hn : get l n = some xn) (hdn : d ≠ n) (hk : xn.kind = 1 → lks l n = 0) : qOf (putE l d s n) = entQ (qOf l) d s n := by
  obtain ⟨xdm, xdn⟩ := get_some hd
  obtain ⟨xnm, xnn⟩ := get_some hn
  have lk := fun k => lks_putE hs (n := n) hd s k
  have up : ∀ k, k ≠ n → upF (putE l d s n) k = upF l k := fun k hkn => upF_updL (fun _ => rfl) (fun x _ _ => nmsB_insE x s (fun e => hkn e.symm))
  funext k
  unfold entQ
  by_cases h1 : k = n
  · subst h1
    rw [if_pos rfl]
    have hg : get (putE l d s k) k = some xn := by rw [get_putE, if_neg (fun e => hdn e.symm)]; exact hn
    rw [qOf_get hg, qOf_get hn]
    simp only [Option.map_some, Option.some.injEq]
    unfold pnOf named1
    simp only [xnn, lk, if_true]
    congr 1
    by_cases hk1 : xn.kind = 1
    · rw [if_pos hk1, if_pos hk1]
      have h0 := nmsB_none (hk hk1)
      refine upF_of ⟨_, updL_mem xdm, ?_⟩ (fun y hy hb => ?_)
      · rw [if_pos xdn, nmsB_iff]
        simp only [nameN_insE]
        simp
      · obtain ⟨x, hx, e1, _, _, _, _, e6⟩ := mem_putE hy
        rcases e6 with ⟨e6, _⟩ | ⟨_, rfl⟩
        · rw [← e1]; exact e6
        · rw [h0 y hx] at hb; cases hb
    · rw [if_neg hk1, if_neg hk1, if_neg hk1]
  · rw [if_neg h1]
    by_cases h2 : k = d
    · subst h2
      rw [if_pos rfl]
      have hg : get (putE l k s n) k = some { xd with ents := insE s n xd.ents } := by rw [get_putE, if_pos rfl, hd]; rfl
      rw [qOf_get hg, qOf_get hd]
      simp only [Option.map_some, Option.some.injEq]
      unfold pnOf putEnt
      simp only [xdn, lk, up k h1, insE_length, insE_fun n he]
      rw [if_neg (fun e => h1 e.symm)]
      rfl
    · rw [if_neg h2]
      have hg : get (putE l d s n) k = get l k := by rw [get_putE, if_neg h2]
      unfold qOf
      rw [hg]
      cases hx : get l k with
      | none => rfl
      | some x =>
        have hxn := (get_some hx).2
        simp only [Option.map_some, Option.some.injEq]
        refine pnOf_eq ?_ (fun _ => ?_)
        · rw [hxn, lk, if_neg (fun e => h1 e.symm)]; rfl
        · rw [hxn]; exact up k h1
theorem q_add {X : Im} (h : WF X) {d : Int} {s : Tx} {xd : Nd} (hd : get X.l d = some xd) (he : entL xd.ents s = none) (kd : Int) (mt : Mt) (tgt : Tx) : qOf (putE (X.l ++ [⟨X.next, kd, mt, [], tgt, []⟩]) d s X.next) = addQ (qOf X.l) d s X.next (newP kd mt tgt) := by
  obtain ⟨xdm, xdn⟩ := get_some hd
  have hfr := get_fresh h.nums
  have hnum := h.nums xd xdm
  have hl0 := lks_fresh h
  obtain ⟨y, hy⟩ : ∃ y : Nd, y = ⟨X.next, kd, mt, [], tgt, []⟩ := ⟨_, rfl⟩
  rw [← hy]
  have hye : y.ents = [] := by rw [hy]
  have hyn : y.num = X.next := by rw [hy]
  have hs : Srt (X.l ++ [y]) := by
    rw [Srt, List.pairwise_append]
    refine ⟨h.srt, List.pairwise_singleton .., fun a ha b hb => ?_⟩
    have : b = y := by simpa using hb
    rw [this, hyn]
    exact (h.nums a ha).2
  have hgd : get (X.l ++ [y]) d = some xd := by rw [get_append, hd]; rfl
  have hgn : get (X.l ++ [y]) X.next = some y := by
    rw [get_append, hfr]
    unfold get
    simp [hyn]
  have hlk : lks (X.l ++ [y]) X.next = 0 := by rw [lks_append _ hye, hl0]
  rw [q_putE hs hgd he hgn (by omega) (fun _ => hlk)]
  unfold addQ
  funext k
  unfold entQ
  by_cases h1 : k = X.next
  · rw [if_pos h1, if_pos h1, qOf_get hgn]
    unfold withQ
    rw [if_pos rfl]
    simp only [Option.map_some, Option.some.injEq]
    unfold pnOf named1
    simp only [hyn, hlk]
    rw [hy]
    simp only
    have : entL ([] : List (Tx × Int)) = fun _ => none := by funext x; rfl
    rw [this]
    congr 1
    by_cases hk1 : kd = 1
    · rw [if_pos hk1, if_pos hk1]
    · rw [if_neg hk1, if_neg hk1, if_neg hk1]
  · rw [if_neg h1, if_neg h1]
    have hq : ∀ j, j ≠ X.next → qOf (X.l ++ [y]) j = qOf X.l j := fun j hj => by
      unfold qOf
      have hg : get (X.l ++ [y]) j = get X.l j := by
        rw [get_append]
        have : get [y] j = none := by unfold get; simp [hyn]; exact fun e => hj e.symm
        rw [this]; simp
      rw [hg]
      cases hx : get X.l j with
      | none => rfl
      | some x =>
        simp only [Option.map_some, Option.some.injEq]
        refine pnOf_eq (lks_append _ hye _) (fun _ => upF_append ?_)
        unfold nmsB; rw [hye]; rfl
    have hw : ∀ j, j ≠ X.next → withQ (qOf X.l) X.next (newP kd mt tgt) j = qOf X.l j := fun j hj => by unfold withQ; rw [if_neg hj]
    by_cases h2 : k = d
    · rw [if_pos h2, if_pos h2, hq d (by omega), hw d (by omega)]
    · rw [if_neg h2, if_neg h2, hq k h1, hw k h1]
/-- All but the entry's own inode stays, but for the directory's entries. -/
theorem q_rmvE {l : List Nd} (hs : Srt l) {d n : Int} {s : Tx} {xd : Nd} (hd : get l d = some xd) (hx : xd.ents.Pairwise (fun a b => lt a.1 b.1 = true)) (he : entL xd.ents s = some n) (k : Int) (hk : k ≠ n) : qOf (rmvE l d s) k = if k = d then (qOf l d).map (delEnt · s) else qOf l k := by
  obtain ⟨xdm, xdn⟩ := get_some hd
  have lk := fun k => lks_rmvE hs hd hx he k
  have hlk : lks (rmvE l d s) k = lks l k := by have := lk k; rw [if_neg (fun e => hk e.symm)] at this; omega
  have up : upF (rmvE l d s) k = upF l k := upF_updL (fun _ => rfl) (fun x hxm hxd => by
    have : x = xd := by
      have := get_mem hs hxm
      rw [hxd, hd] at this
      injection this with this
      exact this.symm
    rw [this]
    exact nmsB_delE hx he (fun e => hk e.symm))
  by_cases h2 : k = d
  · subst h2
    rw [if_pos rfl]
    have hg : get (rmvE l k s) k = some { xd with ents := delE s xd.ents } := by rw [get_rmvE, if_pos rfl, hd]; rfl
    rw [qOf_get hg, qOf_get hd]
    simp only [Option.map_some, Option.some.injEq]
    unfold pnOf delEnt
    have hl := delE_length hx s
    rw [he] at hl
    simp only [Option.isSome_some, if_true] at hl
    have hl2 : (delE s xd.ents).length = xd.ents.length - 1 := by omega
    simp only [xdn, hlk, up, hl2, delE_fun]
  · rw [if_neg h2]
    have hg : get (rmvE l d s) k = get l k := by rw [get_rmvE, if_neg h2]
    unfold qOf
    rw [hg]
    cases hx : get l k with
    | none => rfl
    | some x =>
      have hxn := (get_some hx).2
      simp only [Option.map_some, Option.some.injEq]
      exact pnOf_eq (by rw [hxn]; exact hlk) (fun _ => by rw [hxn]; exact up)
theorem q_dropL {l : List Nd} (hs : Srt l) {n : Int} {xn : Nd} (hn : get l n = some xn) (hx : xn.ents = []) (k : Int) : qOf (dropL l n) k = if k = n then none else qOf l k := by
  unfold qOf
  rw [get_dropL]
  by_cases h : k = n
  · rw [if_pos h, if_pos h]; rfl
  · rw [if_neg h, if_neg h]
    cases hg : get l k with
    | none => rfl
    | some x =>
      simp only [Option.map_some, Option.some.injEq]
      refine pnOf_eq (lkS_dropL hs hn hx _) (fun _ => upF_dropL (fun y hy hyn => ?_))
      have : y = xn := by
        have := get_mem hs hy
        rw [hyn, hn] at this
        injection this with this
        exact this.symm
      unfold nmsB
      rw [this, hx]; rfl
theorem get_rmv_other {l : List Nd} {d n : Int} {s : Tx} {xn : Nd} (hn : get l n = some xn) (hdn : d ≠ n) : get (rmvE l d s) n = some xn := by rw [get_rmvE, if_neg (fun e => hdn e.symm)]; exact hn
theorem q_leaL {X : Im} (h : WF X) {d n : Int} {s : Tx} {xd xn : Nd} (hd : get X.l d = some xd) (he : entL xd.ents s = some n) (hn : get X.l n = some xn) (hdn : d ≠ n) (hx : xn.ents = []) : qOf (leaL X.l d s n) = leaQ (qOf X.l) d s n (pnOf X.l xn) := by
  obtain ⟨xdm, xdn⟩ := get_some hd
  obtain ⟨xnm, xnn⟩ := get_some hn
  have hxs := h.esrt xd xdm
  have lk := lks_rmvE h.srt hd hxs he n
  rw [if_pos rfl] at lk
  have hlinks : (pnOf X.l xn).links = (lks X.l n : Int) := by unfold pnOf; simp only [xnn]
  have hgn := get_rmv_other (d := d) (s := s) hn hdn
  funext k
  unfold leaQ leaL
  rw [hlinks]
  by_cases h0 : lks (rmvE X.l d s) n = 0
  · rw [if_pos h0, q_dropL (l := rmvE X.l d s) (srt_updL h.srt d (fun _ => rfl)) hgn hx]
    by_cases h1 : k = n
    · rw [if_pos h1, if_pos h1, if_pos (by omega)]
    · rw [if_neg h1, if_neg h1, q_rmvE h.srt hd hxs he k h1]
  · rw [if_neg h0]
    by_cases h1 : k = n
    · subst h1
      rw [if_pos rfl, if_neg (by omega), qOf_get hgn]
      congr 1
      have hk1 : xn.kind ≠ 1 := fun hk1 => by
        have := h.lkd xn xnm hk1
        rw [xnn] at this
        omega
      unfold pnOf unnam
      simp only [xnn]
      rw [if_neg hk1, if_neg hk1]
      congr 1
      omega
    · rw [if_neg h1, q_rmvE h.srt hd hxs he k h1]
theorem len_leaL {X : Im} (h : WF X) {d n : Int} {s : Tx} {xd xn : Nd} (hd : get X.l d = some xd) (he : entL xd.ents s = some n) (hn : get X.l n = some xn) (hdn : d ≠ n) : (leaL X.l d s n).length = leaN X.l.length (pnOf X.l xn) ∧ (heldF (leaL X.l d s n) : Int) = (leaH (hOf X) (pnOf X.l xn)).held := by
  obtain ⟨xdm, xdn⟩ := get_some hd
  obtain ⟨xnm, xnn⟩ := get_some hn
  have hxs := h.esrt xd xdm
  have lk := lks_rmvE h.srt hd hxs he n
  rw [if_pos rfl] at lk
  have hlinks : (pnOf X.l xn).links = (lks X.l n : Int) := by unfold pnOf; simp only [xnn]
  have hgn := get_rmv_other (d := d) (s := s) hn hdn
  have hsr : Srt (rmvE X.l d s) := srt_updL h.srt d (fun _ => rfl)
  have hl : (rmvE X.l d s).length = X.l.length := len_updL ..
  have hh : heldF (rmvE X.l d s) = heldF X.l := held_updL d (f := fun x => { x with ents := delE s x.ents }) (fun _ => rfl)
  unfold leaL leaN leaH
  rw [hlinks]
  by_cases h0 : lks (rmvE X.l d s) n = 0
  · rw [if_pos h0, if_pos (by omega), if_pos (by omega)]
    have s1 := sumF_dropL (fun _ => 1) hsr hgn
    have s2 := sumF_dropL (fun x => x.data.length) hsr hgn
    rw [← len_sum, ← len_sum] at s1
    have e1 : heldF (dropL (rmvE X.l d s) n) = sumF (fun x => x.data.length) (dropL (rmvE X.l d s) n) := rfl
    have e2 : heldF (rmvE X.l d s) = sumF (fun x => x.data.length) (rmvE X.l d s) := rfl
    refine ⟨by omega, ?_⟩
    show (heldF (dropL (rmvE X.l d s) n) : Int) = (heldF X.l : Int) - (xn.data.length : Int)
    omega
  · rw [if_neg h0, if_neg (by omega), if_neg (by omega)]
    exact ⟨hl, by show (heldF (rmvE X.l d s) : Int) = (heldF X.l : Int); rw [hh]⟩
theorem wf_lea {X : Im} (h : WF X) {d n : Int} {s : Tx} {xd xn : Nd} (hd : get X.l d = some xd) (he : entL xd.ents s = some n) (hn : get X.l n = some xn) (hdn : d ≠ n) (hx : xn.ents = []) : WF { X with l := leaL X.l d s n } := by
  obtain ⟨xdm, xdn⟩ := get_some hd
  obtain ⟨xnm, xnn⟩ := get_some hn
  have lk := lks_rmvE h.srt hd (h.esrt xd xdm) he n
  rw [if_pos rfl] at lk
  have h1 : n ≠ 1 := (h.es xd xdm _ (entL_some he)).2.1
  have hw := wf_rmv h hd he
  have hgn := get_rmv_other (d := d) (s := s) hn hdn
  unfold leaL
  by_cases h0 : lks (rmvE X.l d s) n = 0
  · rw [if_pos h0]
    exact wfx_drop hw hgn h1 h0 hx
  · rw [if_neg h0]
    refine wfx_full hw hgn (by show 1 ≤ lks (rmvE X.l d s) n; omega) (fun hk1 => ?_)
    have := h.lkd xn xnm hk1
    rw [xnn] at this
    omega
/-! ### Up, and being within -/
theorem up_of {X : Im} (h : WF X) {a b : Int} {x y : Nd} (hx : x ∈ X.l) (hxa : x.num = a) (hb : nmsB x b = true) (hy : y ∈ X.l) (hyb : y.num = b) (hk : y.kind = 1) : upF X.l b = a := by
  refine upF_of ⟨x, hx, hb⟩ (fun z hz hzb => ?_)
  by_cases hne : z.num = x.num
  · rw [hne, hxa]
  · have h1 := sumF_two (g := fun x => nameN x.ents b) h.srt hz hx hne
    have h2 := nmsB_iff.1 hb
    have h3 := nmsB_iff.1 hzb
    have h4 := h.lkd y hy hk
    rw [hyb] at h4
    unfold lks at h4
    rw [lkS_sum] at h4
    omega
/-- Each directory but the root has an entry. -/
theorem WF.parent {X : Im} (h : WF X) {y : Nd} (hy : y ∈ X.l) (hk : y.kind = 1) (h1 : y.num ≠ 1) : ∃ x ∈ X.l, x.kind = 1 ∧ nmsB x y.num = true ∧ upF X.l y.num = x.num := by
  have h2 := h.lk1 y hy
  unfold lks at h2
  rw [if_neg h1, lkS_sum] at h2
  obtain ⟨x, hx, hg⟩ := sumF_pos (g := fun x => nameN x.ents y.num) (l := X.l) (by omega)
  have hb : nmsB x y.num = true := nmsB_iff.2 hg
  refine ⟨x, hx, ?_, hb, up_of h hx rfl hb hy rfl hk⟩
  by_cases hxk : x.kind = 1
  · exact hxk
  · have := (h.kinds x hx).noents hxk
    simp only [this, nameN_nil] at hg
    omega
end Go.Proofs.YtcogkhcfpgelhabGreat

namespace Go.Proofs.YtcogkhcfpgelhabGreat
open Go.RowKit
set_option linter.unusedVariables false
/-- What is within a directory, in the program's words. -/
theorem wf_rkd {X : Im} (h : WF X) : ∃ rk : Int → Nat, Rkd (qOf X.l) rk ∧ ∀ t d : Int, ∀ y ∈ X.l, y.num = d → y.kind = 1 → ∀ k, rk d ≤ k → (inW (qOf X.l) k d t = true ↔ Sub X.l t d) := by
  obtain ⟨rk, hrk⟩ := h.rk
  have hup : ∀ y ∈ X.l, y.kind = 1 → y.num ≠ 1 → ∃ x ∈ X.l, x.kind = 1 ∧ upF X.l y.num = x.num ∧ rk x.num < rk y.num ∧ Ch X.l x.num y.num := fun y hy hk h1 => by
    obtain ⟨x, hx, hxk, hb, hu⟩ := h.parent hy hk h1
    obtain ⟨e, he, he2⟩ := nameN_pos.1 (nmsB_iff.1 hb)
    exact ⟨x, hx, hxk, hu, hrk x hx e he y hy he2.symm hk, x, hx, rfl, hb, y, hy, rfl, hk⟩
  refine ⟨rk, fun d p hq hk hd1 => ?_, fun t d y hy hyd hk k hrkk => ?_⟩
  · obtain ⟨y, hg, hy, hyd, rfl⟩ := qOf_some hq
    have hk' : y.kind = 1 := hk
    obtain ⟨x, hx, hxk, hu, hr, _⟩ := hup y hy hk' (by rw [hyd]; exact hd1)
    have hpu : (pnOf X.l y).up = x.num := by unfold pnOf; simp only; rw [if_pos hk', hu]
    rw [hpu]
    have hnx := h.nums x hx
    have hx2 := h.x2
    refine ⟨⟨by omega, by omega⟩, by rw [← hyd]; exact hr, pnOf X.l x, qOf_get (h.get hx), hxk⟩
  · constructor
    · induction k generalizing d y with
      | zero =>
        intro hw
        unfold inW at hw
        have : d = t := by simpa using hw
        rw [this]; exact .refl
      | succ k ih =>
        intro hw
        unfold inW at hw
        split at hw
        · rename_i e; rw [e]; exact .refl
        · split at hw
          · cases hw
          · rename_i hd1
            have hg := h.get hy
            rw [hyd] at hg
            rw [qOf_get hg] at hw
            obtain ⟨x, hx, hxk, hu, hr, hch⟩ := hup y hy hk (by rw [hyd]; exact hd1)
            have hpu : (pnOf X.l y).up = x.num := by unfold pnOf; simp only; rw [if_pos hk, hu]
            simp only [hpu] at hw
            have := ih x.num x hx rfl hxk (by rw [hyd] at hr; omega) hw
            rw [← hyd]
            exact this.step hch
    · intro hs
      induction hs generalizing k y with
      | refl =>
        cases k with
        | zero => unfold inW; simp
        | succ k => unfold inW; simp
      | step hsa hch ih =>
        rename_i a b
        obtain ⟨x, hx, hxa, hb, y', hy', hyb', hk'⟩ := hch
        have hyy : y = y' := h.uniq hy hy' (by rw [hyd, hyb'])
        obtain ⟨e, he, he2⟩ := nameN_pos.1 (nmsB_iff.1 hb)
        have hb1 : b ≠ 1 := by have := (h.es x hx e he).2.1; rw [he2] at this; exact this
        have hr := hrk x hx e he y hy (by rw [he2, hyd]) hk
        have hu := up_of h hx hxa hb hy hyd hk
        have hxk : x.kind = 1 := by
          by_cases hxk : x.kind = 1
          · exact hxk
          · rw [(h.kinds x hx).noents hxk] at he; cases he
        cases k with
        | zero => rw [hyd] at hr; omega
        | succ k =>
          unfold inW
          by_cases hbt : b = t
          · rw [if_pos hbt]
          · rw [if_neg hbt, if_neg hb1]
            have hg := h.get hy
            rw [hyd] at hg
            rw [qOf_get hg]
            have hpu : (pnOf X.l y).up = a := by unfold pnOf; simp only [hyd]; rw [if_pos hk, hu]
            simp only [hpu]
            exact ih x hx hxa hxk k (by rw [hyd, hxa] at hr; omega)
/-! ### Rename -/
def renL (l : List Nd) (d : Int) (s : Tx) (t : Int) (s2 : Tx) (x : Int) : List Nd := putE (rmvE l d s) t s2 x
theorem ch_rmvE {l : List Nd} {d : Int} {s : Tx} {a b : Int} (h : Ch (rmvE l d s) a b) : Ch l a b := by
  obtain ⟨x, hx, hxa, hb, y, hy, hyb, hk⟩ := h
  obtain ⟨x', hx', e1, _, _, _, _, e6, _⟩ := mem_rmvE hx
  obtain ⟨y', hy', f1, f2, _⟩ := mem_rmvE hy
  obtain ⟨e, he, he2⟩ := nameN_pos.1 (nmsB_iff.1 hb)
  exact ⟨x', hx', by rw [e1, hxa], by rw [nmsB_iff, nameN_pos]; exact ⟨e, e6 e he, he2⟩, y', hy', by rw [f1, hyb], by rw [f2, hk]⟩
theorem ch_dropL {l : List Nd} {n a b : Int} (h : Ch (dropL l n) a b) : Ch l a b := by
  obtain ⟨x, hx, hxa, hb, y, hy, hyb, hk⟩ := h
  exact ⟨x, (mem_dropL.1 hx).1, hxa, hb, y, (mem_dropL.1 hy).1, hyb, hk⟩
theorem ch_leaL {l : List Nd} {d n a b : Int} {s : Tx} (h : Ch (leaL l d s n) a b) : Ch l a b := by
  unfold leaL at h
  split at h
  · exact ch_rmvE (ch_dropL h)
  · exact ch_rmvE h
structure Ren (X : Im) (d : Int) (s : Tx) (t : Int) (s2 : Tx) (x : Int) (xd xt xx : Nd) : Prop where
  hd : get X.l d = some xd
  ht : get X.l t = some xt
  hx : get X.l x = some xx
  he : entL xd.ents s = some x
  hf : entL xt.ents s2 = none
  kt : xt.kind = 1
  nm : nmOk s2 = true
  ns : xx.kind = 1 → ¬ Sub X.l x t
theorem wf_noself {X : Im} (h : WF X) {d x : Int} {s : Tx} {xd : Nd} (hd : get X.l d = some xd) (he : entL xd.ents s = some x) : d ≠ x := by
  intro e
  obtain ⟨hm, hn⟩ := get_some hd
  have hk : xd.kind = 1 := by
    by_cases hk : xd.kind = 1
    · exact hk
    · rw [(h.kinds xd hm).noents hk] at he; cases he
  obtain ⟨rk, hrk⟩ := h.rk
  have := hrk xd hm _ (entL_some he) xd hm (by rw [hn, e]) hk
  omega
theorem Ren.wf {X : Im} (h : WF X) {d : Int} {s : Tx} {t : Int} {s2 : Tx} {x : Int} {xd xt xx : Nd} (r : Ren X d s t s2 x xd xt xx) : WF { X with l := renL X.l d s t s2 x } := by
  obtain ⟨xdm, xdn⟩ := get_some r.hd
  obtain ⟨xxm, xxn⟩ := get_some r.hx
  have hdx := wf_noself h r.hd r.he
  have h1 : x ≠ 1 := (h.es xd xdm _ (entL_some r.he)).2.1
  have lk := lks_rmvE h.srt r.hd (h.esrt xd xdm) r.he x
  rw [if_pos rfl] at lk
  have hw := wf_rmv h r.hd r.he
  have hgx := get_rmv_other (d := d) (s := s) r.hx hdx
  have hns : xx.kind = 1 → ¬ Sub (rmvE X.l d s) x t := fun hk hs => r.ns hk (hs.mono (fun a b => ch_rmvE))
  have hlk : xx.kind = 1 → lks (rmvE X.l d s) x = 0 := fun hk => by
    have := h.lkd xx xxm hk
    rw [xxn] at this; omega
  by_cases htd : t = d
  · subst htd
    have hxt : xd = xt := by have := r.hd; rw [r.ht] at this; injection this with this; exact this.symm
    have hgt : get (rmvE X.l t s) t = some { xd with ents := delE s xd.ents } := by rw [get_rmvE, if_pos rfl, r.hd]; rfl
    refine wfx_put hw hgt (by rw [hxt]; exact r.kt) r.nm ?_ hgx h1 hlk hns
    show entL (delE s xd.ents) s2 = none
    rw [entL_delE]
    split
    · rfl
    · rw [hxt]; exact r.hf
  · have hgt : get (rmvE X.l d s) t = some xt := get_rmv_other r.ht (fun e => htd e.symm)
    exact wfx_put hw hgt r.kt r.nm r.hf hgx h1 hlk hns
theorem Ren.q {X : Im} (h : WF X) {d : Int} {s : Tx} {t : Int} {s2 : Tx} {x : Int} {xd xt xx : Nd} (r : Ren X d s t s2 x xd xt xx) (hxt : x ≠ t) : qOf (renL X.l d s t s2 x) = leaQ (entQ (qOf X.l) t s2 x) d s x (named1 (pnOf X.l xx) t) := by
  obtain ⟨xdm, xdn⟩ := get_some r.hd
  obtain ⟨xtm, xtn⟩ := get_some r.ht
  obtain ⟨xxm, xxn⟩ := get_some r.hx
  have hdx := wf_noself h r.hd r.he
  have hxs := h.esrt xd xdm
  have lk := lks_rmvE h.srt r.hd hxs r.he x
  rw [if_pos rfl] at lk
  have hl1 := h.lk1 xx xxm
  rw [xxn] at hl1
  have hgx := get_rmv_other (d := d) (s := s) r.hx hdx
  have hlk : xx.kind = 1 → lks (rmvE X.l d s) x = 0 := fun hk => by
    have := h.lkd xx xxm hk
    rw [xxn] at this; omega
  have hss : Srt (rmvE X.l d s) := srt_updL h.srt d (fun _ => rfl)
  have hlinks : (named1 (pnOf X.l xx) t).links = (lks X.l x : Int) + 1 := by unfold named1 pnOf; simp only [xxn]
  have hq2 := fun k hk => q_rmvE h.srt r.hd hxs r.he k hk
  have key : ∀ xt2 : Nd, get (rmvE X.l d s) t = some xt2 → entL xt2.ents s2 = none → qOf (renL X.l d s t s2 x) = leaQ (entQ (qOf X.l) t s2 x) d s x (named1 (pnOf X.l xx) t) := fun xt2 hgt hf2 => by
    unfold renL
    rw [q_putE hss hgt hf2 hgx (fun e => hxt e.symm) hlk]
    funext k
    unfold leaQ
    rw [if_neg (show ¬ (named1 (pnOf X.l xx) t).links = 1 by rw [hlinks]; omega)]
    by_cases h1 : k = x
    · subst h1
      rw [if_pos rfl]
      unfold entQ
      rw [if_pos rfl, qOf_get hgx]
      simp only [Option.map_some, Option.some.injEq]
      unfold unnam named1 pnOf
      simp only [xxn]
      by_cases hk1 : xx.kind = 1
      · simp only [if_pos hk1]; congr 1; omega
      · simp only [if_neg hk1]; congr 1; omega
    · rw [if_neg h1]
      by_cases h2 : k = d
      · subst h2
        rw [if_pos rfl]
        unfold entQ
        rw [if_neg h1, if_neg h1, hq2 k h1, if_pos rfl]
        by_cases h3 : k = t
        · subst h3
          rw [if_pos rfl, if_pos rfl, hq2 k h1, if_pos rfl, qOf_get r.hd]
          simp only [Option.map_some, Option.some.injEq]
          have hxe : xd = xt := by have := r.hd; rw [r.ht] at this; injection this with this; exact this.symm
          have hne : s ≠ s2 := fun e => by
            have h4 := r.he
            rw [hxe, e, r.hf] at h4; cases h4
          have hpos : 1 ≤ xd.ents.length := by
            have := entL_some r.he
            exact List.length_pos_of_mem this
          unfold putEnt delEnt pnOf
          simp only
          congr 1
          · funext z
            by_cases hz : z = s2
            · rw [if_pos hz, if_neg (fun e => hne (e.symm.trans hz)), if_pos hz]
            · rw [if_neg hz, if_neg hz]
          · omega
        · rw [if_neg h3, if_neg h3]
      · rw [if_neg h2]
        unfold entQ
        rw [if_neg h1, if_neg h1]
        by_cases h3 : k = t
        · subst h3
          rw [if_pos rfl, if_pos rfl, hq2 k h1, if_neg h2]
        · rw [if_neg h3, if_neg h3, hq2 k h1, if_neg h2]
  by_cases htd : t = d
  · subst htd
    have hxe : xd = xt := by have := r.hd; rw [r.ht] at this; injection this with this; exact this.symm
    refine key { xd with ents := delE s xd.ents } (by rw [get_rmvE, if_pos rfl, r.hd]; rfl) ?_
    show entL (delE s xd.ents) s2 = none
    rw [entL_delE]
    split
    · rfl
    · rw [hxe]; exact r.hf
  · exact key xt (get_rmv_other r.ht (fun e => htd e.symm)) r.hf
theorem ren_len (l : List Nd) (d : Int) (s : Tx) (t : Int) (s2 : Tx) (x : Int) : (renL l d s t s2 x).length = l.length ∧ heldF (renL l d s t s2 x) = heldF l := by
  have e1 : heldF (putE (rmvE l d s) t s2 x) = heldF (rmvE l d s) := held_updL t (f := fun y => { y with ents := insE s2 x y.ents }) (fun _ => rfl)
  have e2 : heldF (rmvE l d s) = heldF l := held_updL d (f := fun x => { x with ents := delE s x.ents }) (fun _ => rfl)
  unfold renL
  refine ⟨?_, by rw [e1, e2]⟩
  unfold putE rmvE
  rw [len_updL, len_updL]
/-! ### Content -/
theorem q_upd {l : List Nd} (hs : Srt l) {n : Int} {xn : Nd} (hn : get l n = some xn) {f : Nd → Nd} (f1 : ∀ x, (f x).num = x.num) (f3 : ∀ x, (f x).ents = x.ents) : qOf (updL l n f) = fun k => if k = n then some (pnOf l (f xn)) else qOf l k := by
  have lk : ∀ k, lks (updL l n f) k = lks l k := fun k => by
    have := sumF_updL (fun x => nameN x.ents k) hs hn f
    simp only [f3] at this
    unfold lks
    rw [lkS_sum, lkS_sum]
    omega
  have up : ∀ k, upF (updL l n f) k = upF l k := fun k => upF_updL f1 (fun x _ _ => by unfold nmsB; rw [f3])
  funext k
  unfold qOf
  rw [get_updL _ _ _ _ f1]
  by_cases h : k = n
  · rw [if_pos h, if_pos h, h, hn]
    simp only [Option.map_some, Option.some.injEq]
    exact pnOf_eq (lk _) (fun _ => up _)
  · rw [if_neg h, if_neg h]
    cases hg : get l k with
    | none => rfl
    | some x =>
      simp only [Option.map_some, Option.some.injEq]
      exact pnOf_eq (lk _) (fun _ => up _)
end Go.Proofs.YtcogkhcfpgelhabGreat

namespace Go.Proofs.YtcogkhcfpgelhabGreat
open Go.RowKit
set_option linter.unusedVariables false
/-! ### Going through an image from its root -/
/-- What an image's inodes are by themselves. -/
structure Bas (l : List Nd) : Prop where
  srt : l.Pairwise (fun a b => a.num < b.num)
  rt : ∃ r t, l = r :: t ∧ r.num = 1 ∧ r.kind = 1
  pos : ∀ x ∈ l, 1 ≤ x.num
  kinds : ∀ x ∈ l, NdOk x
  esrt : ∀ x ∈ l, x.ents.Pairwise (fun a b => lt a.1 b.1 = true)
/-- What their entries make of them. -/
structure Tree (l : List Nd) : Prop where
  es : ∀ x ∈ l, ∀ e ∈ x.ents, e.2 ≠ 1 ∧ ∃ y ∈ l, y.num = e.2
  lk1 : ∀ x ∈ l, 1 ≤ lks l x.num
  lkd : ∀ x ∈ l, x.kind = 1 → lks l x.num = 1
  rk : ∃ rk : Int → Nat, ∀ x ∈ l, ∀ e ∈ x.ents, ∀ y ∈ l, y.num = e.2 → y.kind = 1 → rk x.num < rk y.num
theorem Bas.uniq {l : List Nd} (h : Bas l) {x y : Nd} (hx : x ∈ l) (hy : y ∈ l) (e : x.num = y.num) : x = y := by
  have h1 := get_mem h.srt hx
  have h2 := get_mem h.srt hy
  rw [e, h2] at h1
  injection h1 with h1
  exact h1.symm
/-- How often the inodes of a list name another one. -/
def cntV (l : List Nd) (vis : List Int) (k : Int) : Nat := (vis.map (fun v => ((get l v).map (fun x => nameN x.ents k)).getD 0)).sum
theorem cntV_append (l : List Nd) (a b : List Int) (k : Int) : cntV l (a ++ b) k = cntV l a k + cntV l b k := by
  unfold cntV
  rw [List.map_append, List.sum_append]
theorem cntV_perm {l : List Nd} {a b : List Int} (h : a.Perm b) (k : Int) : cntV l a k = cntV l b k := by
  unfold cntV
  exact (h.map _).sum_nat
theorem get_cons_ne {x : Nd} {r : List Nd} {k : Int} (h : x.num ≠ k) : get (x :: r) k = get r k := by
  unfold get
  rw [List.find?_cons, decide_eq_false h]
theorem cntV_drop {x : Nd} {r : List Nd} {vis : List Int} (h : x.num ∉ vis) (k : Int) : cntV (x :: r) vis k = cntV r vis k := by
  unfold cntV
  congr 1
  apply List.map_congr_left
  intro v hv
  rw [get_cons_ne (fun e => h (e ▸ hv))]
theorem get_cons_self {x : Nd} {r : List Nd} : get (x :: r) x.num = some x := by
  unfold get
  rw [List.find?_cons, decide_eq_true rfl]
/-- No list of different inodes names another one more often than all do. -/
theorem cntV_le {l : List Nd} (hs : Srt l) {vis : List Int} (hn : vis.Nodup) (k : Int) : cntV l vis k ≤ lkS l k := by
  induction l generalizing vis with
  | nil =>
    have : cntV [] vis k = 0 := by
      unfold cntV
      have e : vis.map (fun v => ((get [] v).map (fun x : Nd => nameN x.ents k)).getD 0) = vis.map (fun _ => 0) := rfl
      rw [e]
      clear e hn
      induction vis with
      | nil => rfl
      | cons a r ih => simpa using ih
    omega
  | cons x r ih =>
    rw [Srt, List.pairwise_cons] at hs
    have hls : lkS (x :: r) k = nameN x.ents k + lkS r k := by unfold lkS; simp
    by_cases hx : x.num ∈ vis
    · have hp : vis.Perm (x.num :: vis.erase x.num) := List.perm_cons_erase hx
      rw [cntV_perm hp, hls]
      have hn2 : (x.num :: vis.erase x.num).Nodup := hp.nodup_iff.1 hn
      rw [List.nodup_cons] at hn2
      have h1 := ih hs.2 hn2.2
      have e : cntV (x :: r) (x.num :: vis.erase x.num) k = nameN x.ents k + cntV (x :: r) (vis.erase x.num) k := by
        unfold cntV
        rw [List.map_cons, List.sum_cons, get_cons_self]; rfl
      rw [e, cntV_drop hn2.1]
      omega
    · have h1 := ih hs.2 hn
      rw [cntV_drop hx, hls]
      omega
theorem cntV_all {l : List Nd} (hs : Srt l) {vis : List Int} (hn : vis.Nodup) (hv : ∀ x ∈ l, x.ents ≠ [] → x.num ∈ vis) (k : Int) : cntV l vis k = lkS l k := by
  induction l generalizing vis with
  | nil => have := cntV_le (l := []) hs hn k; have : lkS [] k = 0 := rfl; omega
  | cons x r ih =>
    rw [Srt, List.pairwise_cons] at hs
    have hls : lkS (x :: r) k = nameN x.ents k + lkS r k := by unfold lkS; simp
    by_cases hx : x.num ∈ vis
    · have hp : vis.Perm (x.num :: vis.erase x.num) := List.perm_cons_erase hx
      rw [cntV_perm hp, hls]
      have hn2 : (x.num :: vis.erase x.num).Nodup := hp.nodup_iff.1 hn
      rw [List.nodup_cons] at hn2
      have h1 := ih hs.2 hn2.2 (fun y hy hye => by
        have := hv y (List.mem_cons_of_mem _ hy) hye
        have h2 := hp.mem_iff.1 this
        rcases List.mem_cons.1 h2 with h3 | h3
        · have := hs.1 y hy; omega
        · exact h3)
      have e : cntV (x :: r) (x.num :: vis.erase x.num) k = nameN x.ents k + cntV (x :: r) (vis.erase x.num) k := by
        unfold cntV
        rw [List.map_cons, List.sum_cons, get_cons_self]; rfl
      rw [e, cntV_drop hn2.1]
      omega
    · have hxe : x.ents = [] := by
        cases hc : x.ents with
        | nil => rfl
        | cons a b => exact absurd (hv x (List.mem_cons_self ..) (by rw [hc]; simp)) hx
      have h1 := ih hs.2 hn (fun y hy hye => hv y (List.mem_cons_of_mem _ hy) hye)
      rw [cntV_drop hx, hls, hxe, nameN_nil]
      omega
/-- Different ones of a list are no more than it has. -/
theorem nodup_le {ks ms : List Int} (hn : ks.Nodup) (h : ∀ k ∈ ks, k ∈ ms) : ks.length ≤ ms.length := by
  induction ks generalizing ms with
  | nil => simp
  | cons a r ih =>
    rw [List.nodup_cons] at hn
    have ha := h a (List.mem_cons_self ..)
    have h1 := ih (ms := ms.erase a) hn.2 (fun k hk => (List.mem_erase_of_ne (fun e => by rw [e] at hk; exact hn.1 hk)).2 (h k (List.mem_cons_of_mem _ hk)))
    have h2 := List.length_erase_of_mem ha
    have h3 := List.length_pos_of_mem ha
    rw [List.length_cons]
    omega
theorem nodup_all {ks ms : List Int} (hn : ks.Nodup) (h : ∀ k ∈ ks, k ∈ ms) (hl : ms.length ≤ ks.length) : ∀ m ∈ ms, m ∈ ks := by
  induction ks generalizing ms with
  | nil =>
    intro m hm
    have := List.length_pos_of_mem hm
    simp at hl
    rw [hl] at this
    simp at this
  | cons a r ih =>
    intro m hm
    rw [List.nodup_cons] at hn
    have ha := h a (List.mem_cons_self ..)
    have h2 := List.length_erase_of_mem ha
    have h3 := List.length_pos_of_mem ha
    have h1 := ih (ms := ms.erase a) hn.2 (fun k hk => (List.mem_erase_of_ne (fun e => by rw [e] at hk; exact hn.1 hk)).2 (h k (List.mem_cons_of_mem _ hk))) (by rw [List.length_cons] at hl; omega)
    by_cases hma : m = a
    · rw [hma]; exact List.mem_cons_self ..
    · exact List.mem_cons_of_mem _ (h1 m ((List.mem_erase_of_ne hma).2 hm))
/-- How the going stands: vis were gone through, cur is under way (its entries pre), todo are to come; ord as they came by; N how often each was named, ks who was. -/
structure Dfs (l : List Nd) (vis cur todo ord : List Int) (pre : List (Tx × Int)) (N : Int → Nat) (ks : List Int) : Prop where
  perm : (vis ++ (cur ++ todo)).Perm ord
  nod : ord.Nodup
  ordN : ∀ k ∈ ord, 0 < N k
  dir : ∀ k ∈ ord, ∃ x ∈ l, x.num = k ∧ x.kind = 1
  nk : ∀ k, 0 < N k ↔ k ∈ ks
  ksn : ks.Nodup
  inn : ∀ k ∈ ks, ∃ x ∈ l, x.num = k
  dirs : ∀ x ∈ l, x.kind = 1 → N x.num ≤ 1 ∧ (0 < N x.num → x.num ∈ ord)
  ok : ∀ v ∈ vis, ∀ x ∈ l, x.num = v → ∀ e ∈ x.ents, e.2 ≠ 1 ∧ ∃ y ∈ l, y.num = e.2 ∧ (y.kind = 1 → ord.idxOf v < ord.idxOf e.2)
  okc : ∀ v ∈ cur, ∀ e ∈ pre, e.2 ≠ 1 ∧ ∃ y ∈ l, y.num = e.2 ∧ (y.kind = 1 → ord.idxOf v < ord.idxOf e.2)
  cnt : ∀ k, N k = cntV l vis k + nameN pre k + if k = 1 then 1 else 0
theorem Dfs.start {l : List Nd} (h : Bas l) : Dfs l [] [] [1] [1] [] (fun k => if k = 1 then 1 else 0) [1] := by
  obtain ⟨r, t, e, r1, r2⟩ := h.rt
  have hr : r ∈ l := by rw [e]; exact List.mem_cons_self ..
  refine ⟨.refl _, by simp, fun k hk => ?_, fun k hk => ?_, fun k => ?_, by simp, fun k hk => ?_, fun x hx hk => ?_, (fun v hv => by cases hv), (fun v hv => by cases hv), fun k => ?_⟩
  · have : k = 1 := by simpa using hk
    simp [this]
  · have : k = 1 := by simpa using hk
    exact ⟨r, hr, by rw [this, r1], r2⟩
  · by_cases hk : k = 1
    · simp [hk]
    · simp [hk]
  · have : k = 1 := by simpa using hk
    exact ⟨r, hr, by rw [this, r1]⟩
  · by_cases hk : x.num = 1
    · simp [hk]
    · simp [hk]
  · simp [cntV, nameN_nil]
/-- The last one of those that are to come. -/
theorem Dfs.pop {l : List Nd} {vis todo ord : List Int} {N : Int → Nat} {ks : List Int} {c : Int} (h : Dfs l vis [] (todo ++ [c]) ord [] N ks) : Dfs l vis [c] todo ord [] N ks :=
  ⟨(List.Perm.append_left vis (List.perm_append_comm (l₁ := [c]) (l₂ := todo))).trans h.perm, h.nod, h.ordN, h.dir, h.nk, h.ksn, h.inn, h.dirs, h.ok, (fun v hv e he => by cases he), h.cnt⟩
/-- All its entries were gone through. -/
theorem Dfs.next {l : List Nd} {vis todo ord : List Int} {N : Int → Nat} {ks : List Int} {c : Int} {x : Nd} (hx : get l c = some x) (hb : Bas l) (h : Dfs l vis [c] todo ord x.ents N ks) : Dfs l (vis ++ [c]) [] todo ord [] N ks := by
  refine ⟨by have := h.perm; simpa using this, h.nod, h.ordN, h.dir, h.nk, h.ksn, h.inn, h.dirs, fun v hv y hy hyv e he => ?_, (fun v hv => by cases hv), fun k => ?_⟩
  · rw [List.mem_append] at hv
    rcases hv with hv | hv
    · exact h.ok v hv y hy hyv e he
    · have hvc : v = c := by simpa using hv
      have hyx : y = x := hb.uniq hy (get_some hx).1 (by rw [hyv, hvc, (get_some hx).2])
      rw [hyx] at he
      exact h.okc v hv e he
  · rw [h.cnt k, cntV_append]
    have : cntV l [c] k = nameN x.ents k := by
      unfold cntV
      simp [hx]
    rw [this, nameN_nil]
    omega
theorem nameN_snoc (es : List (Tx × Int)) (e : Tx × Int) (k : Int) : nameN (es ++ [e]) k = nameN es k + if e.2 = k then 1 else 0 := by
  unfold nameN
  rw [List.filter_append, List.length_append]
  congr 1
  by_cases h : e.2 = k
  · simp [h]
  · simp [h]
def bumpN (N : Int → Nat) (n k : Int) : Nat := if k = n then N k + 1 else N k
/-- An entry that names what is no directory. -/
theorem Dfs.file {l : List Nd} {vis todo ord : List Int} {pre : List (Tx × Int)} {N : Int → Nat} {ks : List Int} {c : Int} {e : Tx × Int} {y : Nd} (hb : Bas l) (h : Dfs l vis [c] todo ord pre N ks) (hy : get l e.2 = some y) (hk : y.kind ≠ 1) : Dfs l vis [c] todo ord (pre ++ [e]) (bumpN N e.2) (if 0 < N e.2 then ks else ks ++ [e.2]) := by
  obtain ⟨hym, hyn⟩ := get_some hy
  obtain ⟨r, t, el, r1, r2⟩ := hb.rt
  have h1 : e.2 ≠ 1 := fun e1 => by
    have : y = r := hb.uniq hym (by rw [el]; exact List.mem_cons_self ..) (by rw [hyn, e1, r1])
    rw [this] at hk; exact hk r2
  have hxy : ∀ x ∈ l, x.kind = 1 → x.num ≠ e.2 := fun x hx hxk e1 => by
    have : x = y := hb.uniq hx hym (by rw [e1, hyn])
    rw [this] at hxk; exact hk hxk
  refine ⟨h.perm, h.nod, fun k hk2 => ?_, h.dir, fun k => ?_, ?_, fun k hk2 => ?_, fun x hx hxk => ?_, h.ok, fun v hv f hf => ?_, fun k => ?_⟩
  · have := h.ordN k hk2
    unfold bumpN
    split <;> omega
  · unfold bumpN
    by_cases hke : k = e.2
    · subst hke
      rw [if_pos rfl]
      by_cases hp : 0 < N e.2
      · rw [if_pos hp]; exact ⟨fun _ => (h.nk _).1 hp, fun _ => by omega⟩
      · rw [if_neg hp]; simp
    · rw [if_neg hke]
      by_cases hp : 0 < N e.2
      · rw [if_pos hp]; exact h.nk k
      · rw [if_neg hp, h.nk k]; simp [hke]
  · by_cases hp : 0 < N e.2
    · rw [if_pos hp]; exact h.ksn
    · rw [if_neg hp]
      rw [List.nodup_append]
      refine ⟨h.ksn, by simp, fun a ha b hbm => ?_⟩
      have : b = e.2 := by simpa using hbm
      intro hab
      rw [hab, this] at ha
      exact hp ((h.nk _).2 ha)
  · by_cases hp : 0 < N e.2
    · rw [if_pos hp] at hk2; exact h.inn k hk2
    · rw [if_neg hp] at hk2
      rw [List.mem_append] at hk2
      rcases hk2 with hk2 | hk2
      · exact h.inn k hk2
      · have : k = e.2 := by simpa using hk2
        exact ⟨y, hym, by rw [this, hyn]⟩
  · unfold bumpN
    rw [if_neg (hxy x hx hxk)]
    exact h.dirs x hx hxk
  · rw [List.mem_append] at hf
    rcases hf with hf | hf
    · exact h.okc v hv f hf
    · have : f = e := by simpa using hf
      rw [this]
      exact ⟨h1, y, hym, hyn, fun hk1 => absurd hk1 hk⟩
  · unfold bumpN
    rw [nameN_snoc, h.cnt k]
    by_cases hke : k = e.2
    · rw [if_pos hke, if_pos hke.symm]; omega
    · rw [if_neg hke, if_neg (fun e1 : e.2 = k => hke e1.symm)]; omega
theorem idx_append {l : List Int} {a b : Int} (ha : a ∈ l) (hb : b ∉ l) : (l ++ [b]).idxOf a < (l ++ [b]).idxOf b := by
  rw [List.idxOf_append, List.idxOf_append, if_pos ha, if_neg hb]
  have := List.idxOf_lt_length_of_mem ha
  omega
theorem idx_mono {l : List Int} {a b z : Int} (ha : a ∈ l) (h : l.idxOf a < l.idxOf b) : (l ++ [z]).idxOf a < (l ++ [z]).idxOf b := by
  rw [List.idxOf_append, List.idxOf_append, if_pos ha]
  by_cases hb : b ∈ l
  · rw [if_pos hb]; exact h
  · rw [if_neg hb]
    have := List.idxOf_lt_length_of_mem ha
    omega
/-- An entry that names a directory for the first time. -/
theorem Dfs.ddir {l : List Nd} {vis todo ord : List Int} {pre : List (Tx × Int)} {N : Int → Nat} {ks : List Int} {c : Int} {e : Tx × Int} {y : Nd} (hb : Bas l) (h : Dfs l vis [c] todo ord pre N ks) (hy : get l e.2 = some y) (hk : y.kind = 1) (h0 : N e.2 = 0) : Dfs l vis [c] (todo ++ [e.2]) (ord ++ [e.2]) (pre ++ [e]) (bumpN N e.2) (ks ++ [e.2]) := by
  obtain ⟨hym, hyn⟩ := get_some hy
  have h1 : e.2 ≠ 1 := fun e1 => by
    have := h.cnt e.2
    rw [if_pos e1] at this
    omega
  have hno : e.2 ∉ ord := fun hm => by have := h.ordN _ hm; omega
  have hvo : ∀ v ∈ vis, v ∈ ord := fun v hv => h.perm.mem_iff.1 (List.mem_append_left _ hv)
  have hco : c ∈ ord := h.perm.mem_iff.1 (by simp)
  refine ⟨?_, ?_, fun k hk2 => ?_, fun k hk2 => ?_, fun k => ?_, ?_, fun k hk2 => ?_, fun x hx hxk => ?_, fun v hv x hx hxv f hf => ?_, fun v hv f hf => ?_, fun k => ?_⟩
  · have := h.perm.append_right [e.2]
    simpa using this
  · rw [List.nodup_append]
    refine ⟨h.nod, by simp, fun a ha b hbm hab => ?_⟩
    have : b = e.2 := by simpa using hbm
    rw [hab, this] at ha
    exact hno ha
  · unfold bumpN
    rw [List.mem_append] at hk2
    rcases hk2 with hk2 | hk2
    · have := h.ordN k hk2
      split <;> omega
    · have : k = e.2 := by simpa using hk2
      rw [if_pos this]; omega
  · rw [List.mem_append] at hk2
    rcases hk2 with hk2 | hk2
    · exact h.dir k hk2
    · have : k = e.2 := by simpa using hk2
      exact ⟨y, hym, by rw [this, hyn], hk⟩
  · unfold bumpN
    by_cases hke : k = e.2
    · rw [if_pos hke]; simp [hke]
    · rw [if_neg hke, h.nk k]; simp [hke]
  · rw [List.nodup_append]
    refine ⟨h.ksn, by simp, fun a ha b hbm hab => ?_⟩
    have : b = e.2 := by simpa using hbm
    rw [hab, this] at ha
    have := (h.nk _).2 ha
    omega
  · rw [List.mem_append] at hk2
    rcases hk2 with hk2 | hk2
    · exact h.inn k hk2
    · have : k = e.2 := by simpa using hk2
      exact ⟨y, hym, by rw [this, hyn]⟩
  · unfold bumpN
    by_cases hxe : x.num = e.2
    · rw [if_pos hxe, hxe, h0]
      exact ⟨by omega, fun _ => by simp⟩
    · rw [if_neg hxe]
      have := h.dirs x hx hxk
      exact ⟨this.1, fun hp => List.mem_append_left _ (this.2 hp)⟩
  · obtain ⟨a, z, hz, hzn, hzi⟩ := h.ok v hv x hx hxv f hf
    exact ⟨a, z, hz, hzn, fun hzk => idx_mono (hvo v hv) (hzi hzk)⟩
  · have hvc : v = c := by simpa using hv
    rw [List.mem_append] at hf
    rcases hf with hf | hf
    · obtain ⟨a, z, hz, hzn, hzi⟩ := h.okc v hv f hf
      exact ⟨a, z, hz, hzn, fun hzk => idx_mono (by rw [hvc]; exact hco) (hzi hzk)⟩
    · have : f = e := by simpa using hf
      rw [this]
      exact ⟨h1, y, hym, hyn, fun _ => idx_append (by rw [hvc]; exact hco) hno⟩
  · unfold bumpN
    rw [nameN_snoc, h.cnt k]
    by_cases hke : k = e.2
    · rw [if_pos hke, if_pos hke.symm]; omega
    · rw [if_neg hke, if_neg (fun e1 : e.2 = k => hke e1.symm)]; omega
/-- How often it was named is no more than in all. -/
theorem Dfs.le {l : List Nd} {vis todo ord : List Int} {pre : List (Tx × Int)} {N : Int → Nat} {ks : List Int} {c : Int} {x : Nd} (hb : Bas l) (h : Dfs l vis [c] todo ord pre N ks) (hx : get l c = some x) (post : List (Tx × Int)) (hp : x.ents = pre ++ post) (k : Int) : N k + nameN post k ≤ lks l k := by
  have hnd : (vis ++ [c]).Nodup := by
    have h1 := h.perm.nodup_iff.2 h.nod
    have e : vis ++ ([c] ++ todo) = (vis ++ [c]) ++ todo := by simp
    rw [e, List.nodup_append] at h1
    exact h1.1
  have h2 := cntV_le hb.srt hnd k
  rw [cntV_append] at h2
  have h3 : cntV l [c] k = nameN pre k + nameN post k := by
    unfold cntV
    simp [hx, hp, nameN, List.filter_append]
  have := h.cnt k
  unfold lks
  omega
/-- An entry that names nothing, or a directory once more: no tree. -/
theorem Dfs.missing {l : List Nd} {x : Nd} {e : Tx × Int} (hx : x ∈ l) (he : e ∈ x.ents) (hn : get l e.2 = none) : ¬ Tree l := fun h => by
  obtain ⟨_, y, hy, hyn⟩ := h.es x hx e he
  exact get_none.1 hn y hy hyn
theorem Dfs.twice {l : List Nd} {vis todo ord : List Int} {pre : List (Tx × Int)} {N : Int → Nat} {ks : List Int} {c : Int} {x : Nd} {e : Tx × Int} {post : List (Tx × Int)} {y : Nd} (hb : Bas l) (h : Dfs l vis [c] todo ord pre N ks) (hx : get l c = some x) (hp : x.ents = pre ++ e :: post) (hy : get l e.2 = some y) (hk : y.kind = 1) (h0 : 0 < N e.2) : ¬ Tree l := fun ht => by
  obtain ⟨hym, hyn⟩ := get_some hy
  have h1 := h.le hb hx (e :: post) hp e.2
  have h2 : 0 < nameN (e :: post) e.2 := nameN_pos.2 ⟨e, List.mem_cons_self .., rfl⟩
  have h3 := ht.lkd y hym hk
  rw [hyn] at h3
  omega
/-- Nothing is to come any more. -/
theorem Dfs.done {l : List Nd} {vis ord : List Int} {N : Int → Nat} {ks : List Int} (hb : Bas l) (h : Dfs l vis [] [] ord [] N ks) : ks.length = l.length ↔ Tree l := by
  have hvo : ∀ k, k ∈ vis ↔ k ∈ ord := fun k => by
    have := h.perm.mem_iff (a := k)
    simpa using this
  have hvn : vis.Nodup := by
    have := h.perm.nodup_iff.2 h.nod
    simpa using this
  have hmem : ∀ k ∈ ks, k ∈ l.map (·.num) := fun k hk => by
    obtain ⟨x, hx, hxk⟩ := h.inn k hk
    exact List.mem_map.2 ⟨x, hx, hxk⟩
  have hcnt : ∀ k, N k = cntV l vis k + if k = 1 then 1 else 0 := fun k => by
    have := h.cnt k
    rw [nameN_nil] at this
    omega
  constructor
  · intro hl
    have hall : ∀ x ∈ l, x.num ∈ ks := fun x hx => nodup_all h.ksn hmem (by rw [List.length_map]; omega) x.num (List.mem_map.2 ⟨x, hx, rfl⟩)
    have hvd : ∀ x ∈ l, x.ents ≠ [] → x.num ∈ vis := fun x hx hxe => by
      have hk : x.kind = 1 := by
        by_cases hk : x.kind = 1
        · exact hk
        · exact absurd ((hb.kinds x hx).noents hk) hxe
      exact (hvo _).2 ((h.dirs x hx hk).2 ((h.nk _).2 (hall x hx)))
    have hlk : ∀ k, N k = lks l k := fun k => by
      rw [hcnt k, cntV_all hb.srt hvn hvd k]; rfl
    have hes : ∀ x ∈ l, ∀ e ∈ x.ents, e.2 ≠ 1 ∧ ∃ y ∈ l, y.num = e.2 ∧ (y.kind = 1 → ord.idxOf x.num < ord.idxOf e.2) := fun x hx e he => h.ok x.num (hvd x hx (List.ne_nil_of_mem he)) x hx rfl e he
    refine ⟨fun x hx e he => ?_, fun x hx => ?_, fun x hx hk => ?_, fun k => ord.idxOf k, fun x hx e he y hy hye hyk => ?_⟩
    · obtain ⟨a, y, hy, hyn, _⟩ := hes x hx e he
      exact ⟨a, y, hy, hyn⟩
    · have := (h.nk _).2 (hall x hx)
      rw [hlk] at this; omega
    · have h1 := (h.nk _).2 (hall x hx)
      have h2 := (h.dirs x hx hk).1
      rw [hlk] at h1 h2; omega
    · obtain ⟨a, z, hz, hzn, hzi⟩ := hes x hx e he
      have : z = y := hb.uniq hz hy (by rw [hzn, hye])
      have := hzi (by rw [this]; exact hyk)
      rw [hye]; exact this
  · intro ht
    obtain ⟨rk, hrk⟩ := ht.rk
    have hpar : ∀ x ∈ l, x.num ≠ 1 → ∃ p ∈ l, p.kind = 1 ∧ ∃ e ∈ p.ents, e.2 = x.num := fun x hx h1 => by
      have h2 := ht.lk1 x hx
      unfold lks at h2
      rw [if_neg h1, lkS_sum] at h2
      obtain ⟨p, hp, hg⟩ := sumF_pos (g := fun y => nameN y.ents x.num) (l := l) (by omega)
      obtain ⟨e, he, he2⟩ := nameN_pos.1 hg
      refine ⟨p, hp, ?_, e, he, he2⟩
      by_cases hk : p.kind = 1
      · exact hk
      · rw [(hb.kinds p hp).noents hk] at he; cases he
    have hN1 : 0 < N 1 := by rw [hcnt 1]; simp
    have hnam : ∀ p ∈ l, p.num ∈ vis → ∀ e ∈ p.ents, 0 < N e.2 := fun p hp hpv e he => by
      have h1 : 0 < nameN p.ents e.2 := nameN_pos.2 ⟨e, he, rfl⟩
      have h2 : nameN p.ents e.2 ≤ cntV l vis e.2 := by
        have hpm : vis.Perm (p.num :: vis.erase p.num) := List.perm_cons_erase hpv
        rw [cntV_perm hpm]
        have : cntV l (p.num :: vis.erase p.num) e.2 = nameN p.ents e.2 + cntV l (vis.erase p.num) e.2 := by
          unfold cntV
          rw [List.map_cons, List.sum_cons, get_mem hb.srt hp]; rfl
        omega
      rw [hcnt]; omega
    have hdv : ∀ n, ∀ x ∈ l, x.kind = 1 → rk x.num ≤ n → x.num ∈ vis := by
      intro n
      induction n with
      | zero =>
        intro x hx hk hr
        by_cases h1 : x.num = 1
        · have h2 := (h.dirs x hx hk).2
          rw [h1] at h2 ⊢
          exact (hvo 1).2 (h2 hN1)
        · obtain ⟨p, hp, hpk, e, he, he2⟩ := hpar x hx h1
          have := hrk p hp e he x hx he2.symm hk
          omega
      | succ n ih =>
        intro x hx hk hr
        by_cases h1 : x.num = 1
        · have h2 := (h.dirs x hx hk).2
          rw [h1] at h2 ⊢
          exact (hvo 1).2 (h2 hN1)
        · obtain ⟨p, hp, hpk, e, he, he2⟩ := hpar x hx h1
          have := hrk p hp e he x hx he2.symm hk
          have hpv := ih p hp hpk (by omega)
          have hN := hnam p hp hpv e he
          rw [he2] at hN
          exact (hvo _).2 ((h.dirs x hx hk).2 hN)
    have hall : ∀ x ∈ l, x.num ∈ ks := fun x hx => by
      rw [← h.nk]
      by_cases h1 : x.num = 1
      · rw [h1]; exact hN1
      · obtain ⟨p, hp, hpk, e, he, he2⟩ := hpar x hx h1
        have := hnam p hp (hdv _ p hp hpk (Nat.le_refl _)) e he
        rw [he2] at this; exact this
    have hnd : (l.map (·.num)).Nodup := by
      rw [List.nodup_iff_pairwise_ne, List.pairwise_map]
      exact hb.srt.imp (fun h => by omega)
    have h1 := nodup_le h.ksn hmem
    have h2 := nodup_le hnd (fun k hk => by
      obtain ⟨x, hx, hxk⟩ := List.mem_map.1 hk
      rw [← hxk]; exact hall x hx)
    rw [List.length_map] at h1 h2
    omega
theorem Dfs.few {l : List Nd} {vis cur todo ord : List Int} {pre : List (Tx × Int)} {N : Int → Nat} {ks : List Int} (hb : Bas l) (h : Dfs l vis cur todo ord pre N ks) : ord.length ≤ l.length ∧ vis.length + cur.length + todo.length = ord.length ∧ ks.length ≤ l.length := by
  refine ⟨?_, ?_, ?_⟩
  · have := nodup_le (ms := l.map (·.num)) h.nod (fun k hk => by
      obtain ⟨x, hx, hxk, _⟩ := h.dir k hk
      exact List.mem_map.2 ⟨x, hx, hxk⟩)
    rw [List.length_map] at this; exact this
  · have := h.perm.length_eq
    simp only [List.length_append] at this
    omega
  · have := nodup_le (ms := l.map (·.num)) h.ksn (fun k hk => by
      obtain ⟨x, hx, hxk⟩ := h.inn k hk
      exact List.mem_map.2 ⟨x, hx, hxk⟩)
    rw [List.length_map] at this; exact this
end Go.Proofs.YtcogkhcfpgelhabGreat

namespace Go.Proofs.YtcogkhcfpgelhabGreat
open Go.RowKit
set_option linter.unusedVariables false
/-! ### Valid, as the program finds it -/
def entsG : Tx → List (Tx × Int) → Bool
  | _, [] => true
  | last, e :: r => lt last e.1 && nmOk e.1 && entsG e.1 r
theorem entsG_iff (last : Tx) (es : List (Tx × Int)) : entsG last es = true ↔ (∀ e ∈ es, nmOk e.1 = true ∧ lt last e.1 = true) ∧ es.Pairwise (fun a b => lt a.1 b.1 = true) := by
  induction es generalizing last with
  | nil => simp [entsG]
  | cons e r ih =>
    unfold entsG
    rw [Bool.and_eq_true, Bool.and_eq_true, ih, List.pairwise_cons]
    constructor
    · rintro ⟨⟨h1, h2⟩, h3, h4⟩
      refine ⟨fun x hx => ?_, fun x hx => (h3 x hx).2, h4⟩
      rcases List.mem_cons.1 hx with rfl | hx
      · exact ⟨h2, h1⟩
      · exact ⟨(h3 x hx).1, lt_trans h1 (h3 x hx).2⟩
    · rintro ⟨h1, h2, h3⟩
      exact ⟨⟨(h1 e (List.mem_cons_self ..)).2, (h1 e (List.mem_cons_self ..)).1⟩, fun x hx => ⟨(h1 x (List.mem_cons_of_mem _ hx)).1, h2 x hx⟩, h3⟩
theorem lt_nil {s : Tx} (h : nmOk s = true) : lt [] s = true := by
  cases s with
  | nil => simp [nmOk] at h
  | cons a r => rfl
theorem entsG_nil (es : List (Tx × Int)) : entsG [] es = true ↔ (∀ e ∈ es, nmOk e.1 = true) ∧ es.Pairwise (fun a b => lt a.1 b.1 = true) := by
  rw [entsG_iff]
  exact ⟨fun h => ⟨fun e he => (h.1 e he).1, h.2⟩, fun h => ⟨fun e he => ⟨h.1 e he, lt_nil (h.1 e he)⟩, h.2⟩⟩
def ndB (x : Nd) : Bool :=
  if x.kind = 1 then decide (x.data = []) && decide (x.tgt = []) && entsG [] x.ents && mtOk x.mt
  else if x.kind = 2 then decide (x.data.length ≤ 4194304) && decide (x.tgt = []) && decide (x.ents = []) && mtOk x.mt
  else if x.kind = 3 then decide (x.data = []) && tgOk x.tgt && decide (x.ents = []) && mtOk x.mt
  else false
theorem ndB_iff (x : Nd) : ndB x = true ↔ NdOk x ∧ (∀ e ∈ x.ents, nmOk e.1 = true) ∧ x.ents.Pairwise (fun a b => lt a.1 b.1 = true) := by
  unfold ndB NdOk
  by_cases h1 : x.kind = 1
  · rw [if_pos h1]
    simp only [Bool.and_eq_true, decide_eq_true_eq, entsG_nil]
    constructor
    · rintro ⟨⟨⟨a, b⟩, c⟩, d⟩
      exact ⟨⟨d, .inl ⟨h1, a, b⟩⟩, c⟩
    · rintro ⟨⟨d, h⟩, c⟩
      rcases h with ⟨_, a, b⟩ | ⟨e, _⟩ | ⟨e, _⟩
      · exact ⟨⟨⟨a, b⟩, c⟩, d⟩
      · omega
      · omega
  · rw [if_neg h1]
    by_cases h2 : x.kind = 2
    · rw [if_pos h2]
      simp only [Bool.and_eq_true, decide_eq_true_eq]
      constructor
      · rintro ⟨⟨⟨a, b⟩, c⟩, d⟩
        exact ⟨⟨d, .inr (.inl ⟨h2, a, b, c⟩)⟩, by rw [c]; simp⟩
      · rintro ⟨⟨d, h⟩, _⟩
        rcases h with ⟨e, _⟩ | ⟨_, a, b, c⟩ | ⟨e, _⟩
        · exact absurd e h1
        · exact ⟨⟨⟨a, b⟩, c⟩, d⟩
        · omega
    · rw [if_neg h2]
      by_cases h3 : x.kind = 3
      · rw [if_pos h3]
        simp only [Bool.and_eq_true, decide_eq_true_eq]
        constructor
        · rintro ⟨⟨⟨a, b⟩, c⟩, d⟩
          exact ⟨⟨d, .inr (.inr ⟨h3, a, b, c⟩)⟩, by rw [c]; simp⟩
        · rintro ⟨⟨d, h⟩, _⟩
          rcases h with ⟨e, _⟩ | ⟨e, _⟩ | ⟨_, a, b, c⟩
          · exact absurd e h1
          · exact absurd e h2
          · exact ⟨⟨⟨a, b⟩, c⟩, d⟩
      · rw [if_neg h3]
        constructor
        · intro h; cases h
        · rintro ⟨⟨_, h⟩, _⟩
          rcases h with ⟨e, _⟩ | ⟨e, _⟩ | ⟨e, _⟩
          · exact absurd e h1
          · exact absurd e h2
          · exact absurd e h3
def inoG (next : Int) : Int → List Nd → Bool
  | _, [] => true
  | last, x :: r => decide (last < x.num) && decide (x.num < next) && ndB x && inoG next x.num r
theorem inoG_iff (next last : Int) (l : List Nd) : inoG next last l = true ↔ (∀ x ∈ l, last < x.num ∧ x.num < next ∧ ndB x = true) ∧ l.Pairwise (fun a b => a.num < b.num) := by
  induction l generalizing last with
  | nil => simp [inoG]
  | cons y r ih =>
    unfold inoG
    rw [Bool.and_eq_true, Bool.and_eq_true, Bool.and_eq_true, ih, List.pairwise_cons, decide_eq_true_eq, decide_eq_true_eq]
    constructor
    · rintro ⟨⟨⟨h1, h2⟩, h3⟩, h4, h5⟩
      refine ⟨fun x hx => ?_, fun x hx => (h4 x hx).1, h5⟩
      rcases List.mem_cons.1 hx with rfl | hx
      · exact ⟨h1, h2, h3⟩
      · have := h4 x hx
        exact ⟨by omega, this.2⟩
    · rintro ⟨h1, h2, h3⟩
      obtain ⟨a, b, c⟩ := h1 y (List.mem_cons_self ..)
      exact ⟨⟨⟨a, b⟩, c⟩, fun x hx => ⟨h2 x hx, (h1 x (List.mem_cons_of_mem _ hx)).2⟩, h3⟩
/-- The first of the inodes is the root. -/
def rtB : List Nd → Bool
  | [] => false
  | x :: _ => decide (x.num = 1) && decide (x.kind = 1)
def bndB (X : Im) : Bool := decide (1 ≤ X.nodes) && decide (X.nodes ≤ 4096) && decide (0 ≤ X.bytes) && decide (X.bytes ≤ 4194304) && decide (1 < X.next) && decide (X.next ≤ 1099511627776) && decide (1 ≤ X.l.length) && decide ((X.l.length : Int) ≤ X.nodes)
def inodB (X : Im) : Bool := rtB X.l && inoG X.next 0 X.l && decide ((heldF X.l : Int) ≤ X.bytes)
theorem bas_of {X : Im} (h1 : rtB X.l = true) (h2 : inoG X.next 0 X.l = true) : Bas X.l := by
  rw [inoG_iff] at h2
  refine ⟨h2.2, ?_, fun x hx => ?_, fun x hx => ((ndB_iff x).1 (h2.1 x hx).2.2).1, fun x hx => ((ndB_iff x).1 (h2.1 x hx).2.2).2.2⟩
  · cases hl : X.l with
    | nil => rw [hl] at h1; cases h1
    | cons r t =>
      rw [hl] at h1
      unfold rtB at h1
      rw [Bool.and_eq_true, decide_eq_true_eq, decide_eq_true_eq] at h1
      exact ⟨r, t, rfl, h1.1, h1.2⟩
  · have := (h2.1 x hx).1
    omega
theorem valid_iff (X : Im) : (bndB X = true ∧ inodB X = true ∧ Tree X.l) ↔ WF X := by
  unfold inodB bndB
  simp only [Bool.and_eq_true, decide_eq_true_eq]
  constructor
  · rintro ⟨⟨⟨⟨⟨⟨⟨⟨a1, a2⟩, a3⟩, a4⟩, a5⟩, a6⟩, a7⟩, a8⟩, ⟨⟨b1, b2⟩, b3⟩, ht⟩
    have hb := bas_of b1 b2
    rw [inoG_iff] at b2
    refine ⟨a1, a2, a3, a4, by omega, a6, hb.srt, hb.rt, fun x hx => ?_, a8, hb.kinds, b3, fun x hx e he => ?_, hb.esrt, ht.lk1, ht.lkd, ht.rk⟩
    · have := b2.1 x hx; omega
    · exact ⟨((ndB_iff x).1 (b2.1 x hx).2.2).2.1 e he, ht.es x hx e he⟩
  · intro h
    have h5 := h.x1
    obtain ⟨r, t, e, r1, r2⟩ := h.rt
    refine ⟨⟨⟨⟨⟨⟨⟨⟨h.n1, h.n2⟩, h.b1⟩, h.b2⟩, by omega⟩, h.x2⟩, by rw [e]; simp⟩, h.len⟩, ⟨⟨?_, ?_⟩, h.held⟩, ⟨fun x hx e he => (h.es x hx e he).2, h.lk1, h.lkd, h.rk⟩⟩
    · rw [e]; unfold rtB; simp [r1, r2]
    · rw [inoG_iff]
      refine ⟨fun x hx => ?_, h.srt⟩
      have := h.nums x hx
      exact ⟨by omega, this.2, (ndB_iff x).2 ⟨h.kinds x hx, fun e he => (h.es x hx e he).1, h.esrt x hx⟩⟩
end Go.Proofs.YtcogkhcfpgelhabGreat
