import Derived.Test.YtcogkhcfpgelhaaGreatVap
import Derived.Laws.CopyRow
namespace Go.Proofs.YtcogkhcfpgelhaaGreat
open Go.RowKit
set_option linter.unusedVariables false
set_option maxRecDepth 100000
variable {fb mb : Nat} {ot : Option Nat} {L : Int → Lay} {h : Hx} {q : Int → Option Pn} {cnt : Nat} {T : List Ac} {w w' : World} {X : Nat → Prop}
set_option maxHeartbeats 4000000 in
theorem symlink_any (H : FsH fb mb ot L h q cnt T w) (hfr : q h.next = none) (hnx : 0 ≤ h.next ∧ h.next ≤ 1099511627776) (hT : T.length ≤ 2000000000000) (hcn : cnt ≤ 1000000) (d : Int) (hd64 : I64 d) (s : Tx) (hs : s.length ≤ 140737488351232)
    (hzero : ∀ p n, q d = some p → p.ents s = some n → n ≠ 0) (hneb : ∀ p, q d = some p → p.ne ≤ 1000000000000000) (tgt : Tx) (htl : tgt.length ≤ 140737488351232) (mt : Mt) :
    Calls Tryz.prog 62 #[.pointer (some ⟨fb, 0, none⟩), .int .i64 d, .string (mk s), .string (mk tgt), mtV mt] w (AddO fb mb ot L h q cnt T 3 d s 3 mt tgt w) := by
  obtain ⟨P, hP⟩ : ∃ P : Ending → World → Prop, P = AddO fb mb ot L h q cnt T 3 d s 3 mt tgt w := ⟨_, rfl⟩
  rw [← hP]
  obtain ⟨V1, hV1⟩ : ∃ V1, V1 = w.alloc (.cells #[.int .u32 mt.mode, .int .u32 mt.uid, .int .u32 mt.gid, .int .i64 mt.time, .int .i32 mt.nano] 33) := ⟨_, rfl⟩
  have hN1 : Nw w V1 := by rw [hV1]; exact (Fr.refl _ _).alloc _
  have HA : Hid (Calls Tryz.prog 93 #[.pointer (some ⟨fb, 0, none⟩), .int .i64 3, .agg #[.int .i64 d, .string (mk s)], .agg #[.int .i64 3, .int .u32 mt.mode, .int .u32 mt.uid, .int .u32 mt.gid, .int .i64 mt.time, .int .i32 mt.nano, .slice none 0 0, .string (mk tgt), .map none, .int .i64 0, .int .i64 0]] V1 fun e w' => ∃ a b, e = .returned (.tuple #[.int .i64 a, .int .i64 b]) ∧ Hid (P e w')) := by
    have := add_any H hN1 hfr hnx hT hcn d hd64 s hs hzero hneb 3 mt tgt htl 0 (fun hh => by cases hh) 3
    rw [newE_other 3 (by decide)] at this
    refine Calls.mono this (fun e w' hh => ?_)
    obtain ⟨a, b, e1⟩ := hh.tup
    exact ⟨a, b, e1, by rw [hP]; exact hh⟩
  have hc : ∀ j v, (#[.int .u32 mt.mode, .int .u32 mt.uid, .int .u32 mt.gid, .int .i64 mt.time, .int .i32 mt.nano] : Array Value)[j]? = some v → V1.cell? ⟨w.heap.size, j, none⟩ = some v := fun j v hv => by rw [hV1]; exact (rc (nh w _) j v hv).1
  have c0 := hc 0 _ rfl
  have c1 := hc 1 _ rfl
  have c2 := hc 2 _ rfl
  have c3 := hc 3 _ rfl
  have c4 := hc 4 _ rfl
  have HV1 := tHid hV1
  clear hc H hP hN1 hzero hneb hV1
  unfold mtV
  generalize mk s = ss at *
  generalize mk tgt = tt at *
  go_enter Tryz.func62, Tryz.ntmps62
  go_upto_region 1 with fail
  rw [← HV1.out]
  clear HV1
  go_wp2_with (first | (go_at_call 93; with_reducible refine HA.out.mono ?_; rintro e w5 ⟨a, b, rfl, H5⟩))
  exact H5.out
/-- The trace is forgotten. -/
theorem FsH.forget (H : FsH fb mb ot L h q cnt T w) : FsH fb mb none L h q cnt [] (w.setCell ⟨fb, 5, none⟩ (.slice none 0 0)) := by
  obtain ⟨tv, h1, h2⟩ := H.blk
  have f : Fr (fun k => k = fb) w (w.setCell ⟨fb, 5, none⟩ (.slice none 0 0)) := (Fr.refl (fun k => k = fb) w).setCell ⟨fb, 5, none⟩ _ (.inl rfl)
  have hne : ∀ k, tg w k ≠ some 100 → ¬ k = fb := fun k hk e => hk (by rw [e]; exact H.tfb)
  refine ⟨⟨.slice none 0 0, rset h1 5 _, rfl, rfl⟩, H.mp.kept f (fun e => ?_), fun k p2 hp2 => (H.nd k p2 hp2).kept f (fun e => ?_) (fun hk2 e => ?_) (fun g hg e => ?_), H.inj, H.ebm⟩
  · have t := H.mp.tg; rw [e, H.tfb] at t; cases t
  · have t := H.tib hp2; rw [e, H.tfb] at t; cases t
  · have t := H.teb hp2 hk2; rw [e, H.tfb] at t; cases t
  · have t := H.tod hp2 g hg; rw [e, H.tfb] at t; cases t
/-- A meta, put into an inode. -/
theorem stoV_meta (w : World) (ib : Nat) (p : Pn) (dv ev : Value) (hg : w.heap[ib]? = some (.cells (ndC p dv ev) 104)) (m : Mt) :
    (stoV 33 (.pointer (some ⟨ib, 1, none⟩)) (.agg #[.int .u32 m.mode, .int .u32 m.uid, .int .u32 m.gid, .int .i64 m.time, .int .i32 m.nano])).run Tryz.prog w = .ok () (w.setRow ib (ndC { p with mt := m } dv ev)) := by
  have hi : (Tryz.prog.info? 33).map (·.size) = some 5 := by kernel_rfl
  have hs := run_storeCells_at (P := Tryz.prog) ib 1 104 [.int .u32 m.mode, .int .u32 m.uid, .int .u32 m.gid, .int .i64 m.time, .int .i32 m.nano] 0 _ w hg (by simp [ndC]) (by simp [Value.oneCell'])
  unfold stoV
  simp only [Instr.storeAt, Instr.sureAddr, Sem.run_bind, Sem.run_pure, Result.andThen_ok]
  cases hq : Tryz.prog.info? 33 with
  | none => simp [hq] at hi
  | some i =>
    have hz : i.size = 5 := by simpa [hq] using hi
    simp [storeVar, sizeOf, typeInfo, hq, Value.cells, hz]
    exact hs
/-- What Change answers. -/
def chE (q : Int → Option Pn) (n : Int) (m : Mt) : Int := match q n with | none => 100 | some _ => if mtOk m = true then 0 else 1
def ChO (fb mb : Nat) (ot : Option Nat) (L : Int → Lay) (h : Hx) (q : Int → Option Pn) (cnt : Nat) (T : List Ac) (n : Int) (m : Mt) (w : World) (e : Ending) (w' : World) : Prop :=
  (chE q n m ≠ 0 ∧ e = .returned (.int .i64 (chE q n m)) ∧ Nw w w') ∨
  (chE q n m = 0 ∧ e = .returned (.int .i64 0) ∧ ∃ p, q n = some p ∧ MutO fb mb ot L q h (fun j => if j = n then some { p with mt := m } else q j) cnt (T ++ [⟨10, 0, [], n, 0, [], 0, 0⟩]) w w')
section
attribute [local go_sem ↓] stoV_fold
set_option maxHeartbeats 8000000 in
theorem change_any (H : FsH fb mb ot L h q cnt T w) (hT : T.length ≤ 2000000000000) (n : Int) (hn64 : I64 n) (m : Mt) :
    Calls Tryz.prog 65 #[.pointer (some ⟨fb, 0, none⟩), .int .i64 n, mtV m] w (ChO fb mb ot L h q cnt T n m w) := by
  obtain ⟨P, hP⟩ : ∃ P : Ending → World → Prop, P = ChO fb mb ot L h q cnt T n m w := ⟨_, rfl⟩
  rw [← hP]
  obtain ⟨V1, hV1⟩ : ∃ V1, V1 = w.alloc (.cells #[.int .u32 m.mode, .int .u32 m.uid, .int .u32 m.gid, .int .i64 m.time, .int .i32 m.nano] 33) := ⟨_, rfl⟩
  have hN1 : Nw w V1 := by rw [hV1]; exact (Fr.refl _ _).alloc _
  have HV := H.nw hN1
  have c0' := HV.cs.c0
  have hc : ∀ j v, (#[.int .u32 m.mode, .int .u32 m.uid, .int .u32 m.gid, .int .i64 m.time, .int .i32 m.nano] : Array Value)[j]? = some v → V1.cell? ⟨w.heap.size, j, none⟩ = some v := fun j v hv => by rw [hV1]; exact (rc (nh w _) j v hv).1
  have c0 := hc 0 _ rfl
  have c1 := hc 1 _ rfl
  have c2 := hc 2 _ rfl
  have c3 := hc 3 _ rfl
  have c4 := hc 4 _ rfl
  have HFE : Hid (∀ c V, c ≠ 0 → chE q n m = c → Nw w V → P (.returned (.int .i64 c)) V) := fun c V hc e hV => by
    rw [hP]; exact .inl ⟨by rw [e]; exact hc, by rw [e], hV⟩
  rcases option_none_iff (q n) with hqn | ⟨p, hqn⟩
  · have hl := HV.look_none hn64 hqn
    have HF := tHid (HFE.out 100 V1 (by decide) (by unfold chE; rw [hqn]) hN1)
    have HW := tHid hV1
    clear H HV hP hV1 hN1 HFE hc c0 c1 c2 c3 c4
    unfold mtV
    go_enter Tryz.func65, Tryz.ntmps65
    go_upto_region 1 with fail
    rw [← HW.out]
    clear HW
    go_wp2_with fail
    exact HF.out
  · have hl := HV.look_some hn64 hqn
    have HM : Hid (Calls Tryz.prog 104 #[.agg #[.int .u32 m.mode, .int .u32 m.uid, .int .u32 m.gid, .int .i64 m.time, .int .i32 m.nano]] V1 fun e w' => e = .returned (.bool (mtOk m)) ∧ Hid (Nw V1 w')) := isMeta_any m V1
    by_cases hm : mtOk m = true
    · have HS : Hid (∀ w2, Nw V1 w2 → ∃ w3, (stoV 33 (.pointer (some ⟨(L n).ib, 1, none⟩)) (.agg #[.int .u32 m.mode, .int .u32 m.uid, .int .u32 m.gid, .int .i64 m.time, .int .i32 m.nano])).run Tryz.prog w2 = .ok () w3 ∧ Hid (Calls Tryz.prog 97 #[.pointer (some ⟨fb, 0, none⟩), .agg #[.int .i64 10, .int .i64 0, .string ⟨#[]⟩, .int .i64 n, .int .i64 0, .string ⟨#[]⟩, .int .i64 0, .int .i64 0]] w3 fun e w' => (∃ r, e = .returned r) ∧ Hid (P (.returned (.int .i64 0)) w'))) := fun w2 hN2 => by
        have H2 := H.nw (hN1.trans hN2)
        obtain ⟨dv, ev, k1, k2, k3, k4⟩ := (H2.nd n p hqn).blk
        refine ⟨_, stoV_meta w2 (L n).ib p dv ev k1 m, ?_⟩
        have f3 : Fr (fun k => k = (L n).ib) w2 (w2.setRow (L n).ib (ndC { p with mt := m } dv ev)) := (Fr.refl (fun k => k = (L n).ib) w2).setRow _ _ (.inl rfl)
        have t1 := tg_cells k1
        have H3 : FsH fb mb ot L h (fun j => if j = n then some { p with mt := m } else q j) cnt T (w2.setRow (L n).ib (ndC { p with mt := m } dv ev)) := by
          refine H2.turnS hqn (p' := { p with mt := m }) rfl f3 (fun k e => .inl e) ⟨dv, ev, setRow_heap w2 (L n).ib _ _ 104 _ k1, k2.kept f3 (fun g hg e => ?_), fun hk1 => ⟨(k3 hk1).1, (k3 hk1).2.kept f3 (fun e => ?_)⟩, k4⟩
          · have t := H2.tod hqn g hg; rw [e, t1] at t; cases t
          · have t := (k3 hk1).2.tg; rw [e, t1] at t; cases t
        refine Calls.mono (did_any H3 hT ⟨10, 0, [], n, 0, [], 0, 0⟩) ?_
        rintro e w' ⟨hr, ot', H4, f4, ho⟩
        refine ⟨hr, ?_⟩
        show P _ _
        rw [hP]
        refine .inr ⟨by unfold chE; rw [hqn]; exact if_pos hm, rfl, p, hqn, ?_⟩
        have fA : Fr (fun k => k = (L n).ib) w (w2.setRow (L n).ib (ndC { p with mt := m } dv ev)) := (hN1.trans hN2).any.trans f3
        refine MutO.of (X := fun k => k = (L n).ib) (fun k x hx => ?_) fA (fun k e => .inl (.inr (.inr (.inr ⟨n, p, hqn, .inl e⟩)))) H4 f4 ho
        by_cases hk : k = n
        · rw [if_pos hk] at hx
          injection hx with hx
          exact ⟨p, by rw [hk]; exact hqn, by rw [← hx]⟩
        · rw [if_neg hk] at hx
          exact ⟨x, hx, rfl⟩
      rw [hm] at HM
      have HCC : Hid (∀ V, Nw V1 V → V.cell? ⟨w.heap.size, 0, none⟩ = some (.int .u32 m.mode) ∧ V.cell? ⟨w.heap.size, 1, none⟩ = some (.int .u32 m.uid) ∧ V.cell? ⟨w.heap.size, 2, none⟩ = some (.int .u32 m.gid) ∧ V.cell? ⟨w.heap.size, 3, none⟩ = some (.int .i64 m.time) ∧ V.cell? ⟨w.heap.size, 4, none⟩ = some (.int .i32 m.nano)) := fun V hV => ⟨hV.cell c0, hV.cell c1, hV.cell c2, hV.cell c3, hV.cell c4⟩
      have HW := tHid hV1
      clear H HV hP hV1 hN1 HFE hc hqn
      generalize (L n).ib = ib at *
      unfold mtV
      go_enter Tryz.func65, Tryz.ntmps65
      go_upto_region 1 with fail
      rw [← HW.out]
      clear HW
      go_upto_region 6 with (first | (go_at_call 104; with_reducible refine HM.out.mono ?_; rintro e w2 ⟨rfl, H2⟩))
      obtain ⟨w3, hst, HD⟩ := HS.out w2 H2.out
      obtain ⟨d0, d1, d2, d3, d4⟩ := HCC.out w2 H2.out
      clear HS HCC H2 HM c0 c1 c2 c3 c4
      go_wp2_with (first | (go_at_call 97; with_reducible refine HD.out.mono ?_; rintro e w4 ⟨⟨r4, rfl⟩, HF⟩))
      exact HF.out
    · have hmf : mtOk m = false := by simpa using hm
      rw [hmf] at HM
      have HF : Hid (∀ V, Nw V1 V → P (.returned (.int .i64 1)) V) := fun V hV => HFE.out 1 V (by decide) (by unfold chE; rw [hqn]; exact if_neg hm) (hN1.trans hV)
      have HW := tHid hV1
      clear H HV hP hV1 hN1 HFE hc hqn
      generalize (L n).ib = ib at *
      unfold mtV
      go_enter Tryz.func65, Tryz.ntmps65
      go_upto_region 1 with fail
      rw [← HW.out]
      clear HW
      go_wp2_with (first | (go_at_call 104; with_reducible refine HM.out.mono ?_; rintro e w2 ⟨rfl, H2⟩))
      exact HF.out _ H2.out
end
end Go.Proofs.YtcogkhcfpgelhaaGreat

namespace Go.Proofs.YtcogkhcfpgelhaaGreat
open Go.RowKit
set_option linter.unusedVariables false
set_option maxRecDepth 100000
variable {fb mb : Nat} {ot : Option Nat} {L : Int → Lay} {h : Hx} {q : Int → Option Pn} {cnt : Nat} {T : List Ac} {w w' : World} {X : Nat → Prop}
/-- Is a directory top, or does it lie in it? -/
def inW (q : Int → Option Pn) : Nat → Int → Int → Bool
  | 0, d, t => decide (d = t)
  | k + 1, d, t => if d = t then true else if d = 1 then false else match q d with
    | none => false
    | some p => inW q k p.up t
/-- Ranks: up is nearer to the root. -/
def Rkd (q : Int → Option Pn) (rk : Int → Nat) : Prop := ∀ d p, q d = some p → p.kind = 1 → d ≠ 1 → I64 p.up ∧ rk p.up < rk d ∧ ∃ p', q p.up = some p' ∧ p'.kind = 1
theorem inW_step {rk : Int → Nat} (hr : Rkd q rk) {d t : Int} {p : Pn} (hq : q d = some p) (hk : p.kind = 1) (h1 : d ≠ t) (h2 : d ≠ 1) (k : Nat) (hkk : rk d ≤ k) : ∃ k', k = k' + 1 ∧ rk p.up ≤ k' ∧ inW q k d t = inW q k' p.up t := by
  obtain ⟨_, h3, _⟩ := hr d p hq hk h2
  cases k with
  | zero => omega
  | succ k' =>
    refine ⟨k', rfl, by omega, ?_⟩
    conv => lhs; unfold inW
    rw [if_neg h1, if_neg h2, hq]
set_option maxHeartbeats 4000000 in
theorem within_any (H : FsH fb mb ot L h q cnt T w) {rk : Int → Nat} (hr : Rkd q rk) (d top : Int) (hd64 : I64 d) {p : Pn} (hq : q d = some p) (hk : p.kind = 1) : Calls Tryz.prog 125 #[.pointer (some ⟨fb, 0, none⟩), .int .i64 d, .int .i64 top] w fun e w' => e = .returned (.bool (inW q (rk d) d top)) ∧ w = w' := by
  obtain ⟨P, hP⟩ : ∃ P : Ending → World → Prop, P = fun e w' => e = .returned (.bool (inW q (rk d) d top)) ∧ w = w' := ⟨_, rfl⟩
  rw [← hP]
  have HF : Hid (P (.returned (.bool (inW q (rk d) d top))) w) := by rw [hP]; exact ⟨rfl, rfl⟩
  have HH := tHid H
  have HR := tHid hr
  have c0 := H.cs.c0
  have HS : Hid (∃ k, rk d ≤ k ∧ inW q (rk d) d top = inW q k d top ∧ I64 d ∧ ∃ p, q d = some p ∧ p.kind = 1) := ⟨rk d, Nat.le_refl _, rfl, hd64, p, hq, hk⟩
  generalize inW q (rk d) d top = ans at *
  clear H hr hP hd64 hq hk
  go_enter Tryz.func125, Tryz.ntmps125
  go_wp2_with fail
  go_loopg [1] (rk d) (fun kx v wr => ∃ d2, v = .int .i64 d2 ∧ rk d2 ≤ kx ∧ w = wr ∧ Hid (∃ k, rk d2 ≤ k ∧ ans = inW q k d2 top ∧ I64 d2 ∧ ∃ p, q d2 = some p ∧ p.kind = 1))
  case atStart => exact ⟨d, rfl, Nat.le_refl _, rfl, HS⟩
  case round =>
    obtain ⟨d2, rfl, hkx, rfl, HI⟩ := hrel
    obtain ⟨k, hkk, hans, h64, p2, hq2, hk2⟩ := HI.out
    by_cases h1 : d2 = top
    · have e1 : ans = true := by
        rw [hans, h1]
        cases k <;> simp [inW]
      have hb : (d2 != top) = false := by simp [h1]
      have hb2 : (d2 == top) = true := by simp [h1]
      subst e1
      clear HI HS HH HR hans hq2 hk2 h64
      subst h1
      go_wp2_with fail
      exact HF.out
    · by_cases h2 : d2 = 1
      · have e1 : ans = false := by
          rw [hans]
          cases k with
          | zero => simp [inW, h1]
          | succ k' => unfold inW; rw [if_neg h1, if_pos h2]
        subst e1
        clear HI HS HH HR hans hq2 hk2 h64
        subst h2
        have hb : ((1 : Int) != top) = true := by simp [h1]
        have hb2 : ((1 : Int) == top) = false := by simp [h1]
        go_wp2_with fail
        exact HF.out
      · obtain ⟨k', rfl, hk3, hs⟩ := inW_step HR.out hq2 hk2 h1 h2 k hkk
        obtain ⟨u64, u2, u3⟩ := HR.out d2 p2 hq2 hk2 h2
        have hl := HH.out.look_some h64 hq2
        obtain ⟨dv, ev, hC⟩ := HH.out.anyC hq2
        have xa := hC.ca
        have HI2 : Hid (∃ k, rk p2.up ≤ k ∧ ans = inW q k p2.up top ∧ I64 p2.up ∧ ∃ p, q p2.up = some p ∧ p.kind = 1) := ⟨k', hk3, by rw [hans, hs], u64, u3⟩
        have hb : (d2 != top) = true := by simp [h1]
        have hb2 : (d2 != 1) = true := by simp [h2]
        clear HI HS HH HR hans hq2 hk2 h64 hs hC u3 u64 HF hk3 hkk
        generalize (L d2).ib = ib at *
        generalize p2.up = up at *
        go_wp2_with fail
        go_roundg (rk up)
        case measure => omega
        case rel => exact ⟨up, rfl, Nat.le_refl _, rfl, HI2⟩
end Go.Proofs.YtcogkhcfpgelhaaGreat

namespace Go.Proofs.YtcogkhcfpgelhaaGreat
open Go.RowKit
set_option linter.unusedVariables false
set_option maxRecDepth 100000
variable {fb mb : Nat} {ot : Option Nat} {L : Int → Lay} {h : Hx} {q : Int → Option Pn} {cnt : Nat} {T : List Ac} {w w' : World} {X : Nat → Prop}
def neQ (q : Int → Option Pn) (n : Int) : Bool := match q n with | none => false | some p => decide (0 < p.ne)
/-- Why x can't go into the directory too. -/
def stkE (q : Int → Option Pn) (k : Nat) (x y too : Int) : Int := if y ≠ 0 ∧ (isDirQ q x != isDirQ q y) = true then 106 else if isDirQ q x = true ∧ inW q k too x = true then 108 else if y ≠ 0 ∧ neQ q y = true then 109 else 0
set_option maxHeartbeats 8000000 in
theorem stuck_any (H : FsH fb mb ot L h q cnt T w) {rk : Int → Nat} (hr : Rkd q rk) (x y too : Int) (hx64 : I64 x) (hy64 : I64 y) (ht64 : I64 too) {pt : Pn} (ht : q too = some pt) (hkt : pt.kind = 1) (hy : y ≠ 0 → ∃ p, q y = some p) :
    Calls Tryz.prog 102 #[.pointer (some ⟨fb, 0, none⟩), .int .i64 x, .int .i64 y, .int .i64 too] w fun e w' => e = .returned (.int .i64 (stkE q (rk too) x y too)) ∧ w = w' := by
  obtain ⟨P, hP⟩ : ∃ P : Ending → World → Prop, P = fun e w' => e = .returned (.int .i64 (stkE q (rk too) x y too)) ∧ w = w' := ⟨_, rfl⟩
  rw [← hP]
  have HF : Hid (P (.returned (.int .i64 (stkE q (rk too) x y too))) w) := by rw [hP]; exact ⟨rfl, rfl⟩
  have CX := tHid (isDir_any H x hx64)
  have CY := tHid (isDir_any H y hy64)
  have CW := tHid (within_any H hr too x ht64 ht hkt)
  have CE : Hid (y ≠ 0 → Calls Tryz.prog 123 #[.pointer (some ⟨fb, 0, none⟩), .int .i64 y] w fun e w' => e = .returned (.bool (neQ q y)) ∧ w = w') := fun hy0 => by
    obtain ⟨p, hp⟩ := hy hy0
    have e : neQ q y = decide (0 < p.ne) := by unfold neQ; rw [hp]
    rw [e]
    exact hasEntries_any H y hy64 hp
  unfold stkE at HF
  clear H hP hr ht hkt hy hx64 hy64 ht64
  generalize isDirQ q x = bx at *
  generalize isDirQ q y = bY at *
  generalize inW q (rk too) too x = bw at *
  generalize neQ q y = be at *
  by_cases hy0 : y = 0
  · subst hy0
    have e1 : (if (0 : Int) ≠ 0 ∧ (bx != bY) = true then (106 : Int) else if bx = true ∧ bw = true then 108 else if (0 : Int) ≠ 0 ∧ be = true then 109 else 0) = if bx = true ∧ bw = true then 108 else 0 := by simp
    rw [e1] at HF
    clear CE CY e1
    cases bx
    · have HF2 : Hid (P (.returned (.int .i64 0)) w) := by simpa using HF
      clear HF CW
      go_enter Tryz.func102, Tryz.ntmps102
      go_wp2_with (first | (go_at_call 53; with_reducible refine CX.out.mono ?_; rintro e w2 ⟨rfl, rfl⟩))
      exact HF2.out
    · cases bw
      · have HF2 : Hid (P (.returned (.int .i64 0)) w) := by simpa using HF
        clear HF
        go_enter Tryz.func102, Tryz.ntmps102
        go_wp2_with (first | (go_at_call 53; with_reducible refine CX.out.mono ?_; rintro e w2 ⟨rfl, rfl⟩) | (go_at_call 125; with_reducible refine CW.out.mono ?_; rintro e w3 ⟨rfl, rfl⟩))
        exact HF2.out
      · have HF2 : Hid (P (.returned (.int .i64 108)) w) := by simpa using HF
        clear HF
        go_enter Tryz.func102, Tryz.ntmps102
        go_wp2_with (first | (go_at_call 53; with_reducible refine CX.out.mono ?_; rintro e w2 ⟨rfl, rfl⟩) | (go_at_call 125; with_reducible refine CW.out.mono ?_; rintro e w3 ⟨rfl, rfl⟩))
        exact HF2.out
  · have CE2 := tHid (CE.out hy0)
    have hyb : (y != 0) = true := by simp [hy0]
    clear CE
    cases bx <;> cases bY
    · cases be
      · have HF2 : Hid (P (.returned (.int .i64 0)) w) := by simpa [hy0] using HF
        clear HF CW
        go_enter Tryz.func102, Tryz.ntmps102
        go_wp2_with (first | (go_at_call 53; with_reducible refine CX.out.mono ?_; rintro e w2 ⟨rfl, rfl⟩) | (go_at_call 53; with_reducible refine CY.out.mono ?_; rintro e w3 ⟨rfl, rfl⟩) | (go_at_call 123; with_reducible refine CE2.out.mono ?_; rintro e w4 ⟨rfl, rfl⟩))
        exact HF2.out
      · have HF2 : Hid (P (.returned (.int .i64 109)) w) := by simpa [hy0] using HF
        clear HF CW
        go_enter Tryz.func102, Tryz.ntmps102
        go_wp2_with (first | (go_at_call 53; with_reducible refine CX.out.mono ?_; rintro e w2 ⟨rfl, rfl⟩) | (go_at_call 53; with_reducible refine CY.out.mono ?_; rintro e w3 ⟨rfl, rfl⟩) | (go_at_call 123; with_reducible refine CE2.out.mono ?_; rintro e w4 ⟨rfl, rfl⟩))
        exact HF2.out
    · have HF2 : Hid (P (.returned (.int .i64 106)) w) := by simpa [hy0] using HF
      clear HF CW CE2
      go_enter Tryz.func102, Tryz.ntmps102
      go_wp2_with (first | (go_at_call 53; with_reducible refine CX.out.mono ?_; rintro e w2 ⟨rfl, rfl⟩) | (go_at_call 53; with_reducible refine CY.out.mono ?_; rintro e w3 ⟨rfl, rfl⟩))
      exact HF2.out
    · have HF2 : Hid (P (.returned (.int .i64 106)) w) := by simpa [hy0] using HF
      clear HF CW CE2
      go_enter Tryz.func102, Tryz.ntmps102
      go_wp2_with (first | (go_at_call 53; with_reducible refine CX.out.mono ?_; rintro e w2 ⟨rfl, rfl⟩) | (go_at_call 53; with_reducible refine CY.out.mono ?_; rintro e w3 ⟨rfl, rfl⟩))
      exact HF2.out
    · cases bw
      · cases be
        · have HF2 : Hid (P (.returned (.int .i64 0)) w) := by simpa [hy0] using HF
          clear HF
          go_enter Tryz.func102, Tryz.ntmps102
          go_wp2_with (first | (go_at_call 53; with_reducible refine CX.out.mono ?_; rintro e w2 ⟨rfl, rfl⟩) | (go_at_call 53; with_reducible refine CY.out.mono ?_; rintro e w3 ⟨rfl, rfl⟩) | (go_at_call 125; with_reducible refine CW.out.mono ?_; rintro e w3 ⟨rfl, rfl⟩) | (go_at_call 123; with_reducible refine CE2.out.mono ?_; rintro e w4 ⟨rfl, rfl⟩))
          exact HF2.out
        · have HF2 : Hid (P (.returned (.int .i64 109)) w) := by simpa [hy0] using HF
          clear HF
          go_enter Tryz.func102, Tryz.ntmps102
          go_wp2_with (first | (go_at_call 53; with_reducible refine CX.out.mono ?_; rintro e w2 ⟨rfl, rfl⟩) | (go_at_call 53; with_reducible refine CY.out.mono ?_; rintro e w3 ⟨rfl, rfl⟩) | (go_at_call 125; with_reducible refine CW.out.mono ?_; rintro e w3 ⟨rfl, rfl⟩) | (go_at_call 123; with_reducible refine CE2.out.mono ?_; rintro e w4 ⟨rfl, rfl⟩))
          exact HF2.out
      · have HF2 : Hid (P (.returned (.int .i64 108)) w) := by simpa [hy0] using HF
        clear HF CE2
        go_enter Tryz.func102, Tryz.ntmps102
        go_wp2_with (first | (go_at_call 53; with_reducible refine CX.out.mono ?_; rintro e w2 ⟨rfl, rfl⟩) | (go_at_call 53; with_reducible refine CY.out.mono ?_; rintro e w3 ⟨rfl, rfl⟩) | (go_at_call 125; with_reducible refine CW.out.mono ?_; rintro e w3 ⟨rfl, rfl⟩))
        exact HF2.out
end Go.Proofs.YtcogkhcfpgelhaaGreat

namespace Go.Proofs.YtcogkhcfpgelhaaGreat
open Go.RowKit
set_option linter.unusedVariables false
set_option maxRecDepth 100000
variable {fb mb : Nat} {ot : Option Nat} {L : Int → Lay} {h : Hx} {q : Int → Option Pn} {cnt : Nat} {T : List Ac} {w w' : World} {X : Nat → Prop}
/-- What lies behind the leaving of what is in the way. -/
def wayQ (q : Int → Option Pn) (t : Int) (s : Tx) : Option (Int × Pn) → Int → Option Pn
  | none => q
  | some (y, py) => leaQ q t s y py
def wayH (h : Hx) : Option (Int × Pn) → Hx
  | none => h
  | some (_, py) => leaH h py
def wayN (cnt : Nat) : Option (Int × Pn) → Nat
  | none => cnt
  | some (_, py) => leaN cnt py
/-- What is asked of what is in the way. -/
def WayOk (q : Int → Option Pn) (h : Hx) (t : Int) (pt : Pn) (s : Tx) : Option (Int × Pn) → Prop
  | none => pt.ents s = none
  | some (y, py) => pt.ents s = some y ∧ y ≠ 0 ∧ I64 y ∧ q y = some py ∧ t ≠ y ∧ (1 ≤ py.links ∧ py.links ≤ 1000000000000000) ∧ (0 ≤ h.held ∧ h.held ≤ 1000000000000000 ∧ py.data.length ≤ 1000000000000000)
def MvO (fb mb : Nat) (ot : Option Nat) (L : Int → Lay) (h : Hx) (q : Int → Option Pn) (cnt : Nat) (T : List Ac) (d t x : Int) (s s2 : Tx) (wy : Option (Int × Pn)) (px2 : Pn) (w w' : World) : Prop :=
  FsH fb mb ot L (leaH (wayH h wy) px2) (leaQ (entQ (wayQ q t s2 wy) t s2 x) d s x px2) (leaN (wayN cnt wy) px2) T w' ∧ Fr (fun k => k < w.heap.size) w w'
set_option maxHeartbeats 8000000 in
theorem move_any (H : FsH fb mb ot L h q cnt T w) (d t x : Int) (hd64 : I64 d) (ht64 : I64 t) (hx64 : I64 x) (s s2 : Tx) (hs : s.length ≤ 140737488351232) (hs2 : s2.length ≤ 140737488351232)
    {pd pt : Pn} (hd : q d = some pd) (hkd : pd.kind = 1) (hfd : pd.ents s = some x) (ht : q t = some pt) (hkt : pt.kind = 1) (wy : Option (Int × Pn)) (hw : WayOk q h t pt s2 wy)
    {pt1 px1 : Pn} (ht1 : wayQ q t s2 wy t = some pt1) (hk1 : pt1.kind = 1) (hf1 : pt1.ents s2 = none) (hn1 : pt1.ne ≤ 1000000000000000) (hx1 : wayQ q t s2 wy x = some px1) (htx : t ≠ x) (hl1 : 0 ≤ px1.links ∧ px1.links ≤ 1000000000000000)
    {pd2 px2 : Pn} (hd2 : entQ (wayQ q t s2 wy) t s2 x d = some pd2) (hk2 : pd2.kind = 1) (hf2 : pd2.ents s = some x) (hx2 : entQ (wayQ q t s2 wy) t s2 x x = some px2) (hdx : d ≠ x) (hl2 : 1 ≤ px2.links ∧ px2.links ≤ 1000000000000000) (hh2 : 0 ≤ (wayH h wy).held ∧ (wayH h wy).held ≤ 1000000000000000 ∧ px2.data.length ≤ 1000000000000000)
    (hLd : (L d).eb < w.heap.size ∧ (L t).eb < w.heap.size ∧ (L x).ib < w.heap.size) :
    Calls Tryz.prog 103 #[.pointer (some ⟨fb, 0, none⟩), .agg #[.int .i64 d, .string (mk s)], .agg #[.int .i64 t, .string (mk s2)]] w fun e w' => (∃ r, e = .returned r) ∧ MvO fb mb ot L h q cnt T d t x s s2 wy px2 w w' := by
  obtain ⟨P, hP⟩ : ∃ P : Ending → World → Prop, P = fun e w' => (∃ r, e = .returned r) ∧ MvO fb mb ot L h q cnt T d t x s s2 wy px2 w w' := ⟨_, rfl⟩
  rw [← hP]
  obtain ⟨V2, hV2⟩ : ∃ V2, V2 = (w.alloc (.cells #[.int .i64 d, .string (mk s)] 127)).alloc (.cells #[.int .i64 t, .string (mk s2)] 127) := ⟨_, rfl⟩
  have hN2 : Nw w V2 := by rw [hV2]; exact ((Fr.refl _ _).alloc _).alloc _
  have hs1 : (w.alloc (.cells #[.int .i64 d, .string (mk s)] 127)).heap.size = w.heap.size + 1 := by simp
  have hsz2 : V2.heap.size = w.heap.size + 2 := by rw [hV2]; simp
  have hfm : fb < w.heap.size ∧ mb < w.heap.size := ⟨H.lt _ (.inl rfl), H.lt _ (.inr (.inl rfl))⟩
  have HB : Hid (∀ V, Fr (fun k => k < w.heap.size) V2 V → V.cell? ⟨w.heap.size, 0, none⟩ = some (.int .i64 d) ∧ V.cell? ⟨w.heap.size, 1, none⟩ = some (.string (mk s)) ∧ V.cell? ⟨w.heap.size + 1, 0, none⟩ = some (.int .i64 t) ∧ V.cell? ⟨w.heap.size + 1, 1, none⟩ = some (.string (mk s2))) := fun V hV => by
    have hn : Nw (w.alloc (.cells #[.int .i64 d, .string (mk s)] 127)) V2 := by rw [hV2]; exact (Fr.refl _ _).alloc _
    have a1 : ∀ j v, (#[.int .i64 d, .string (mk s)] : Array Value)[j]? = some v → V2.cell? ⟨w.heap.size, j, none⟩ = some v := fun j v hv => hn.cell (rc (nh w _) j v hv).1
    have a2 : ∀ j v, (#[.int .i64 t, .string (mk s2)] : Array Value)[j]? = some v → V2.cell? ⟨w.heap.size + 1, j, none⟩ = some v := fun j v hv => by
      rw [hV2, ← hs1]; exact (rc (nh _ _) j v hv).1
    exact ⟨hV.cellv (a1 0 _ rfl) (by show ¬ w.heap.size < w.heap.size; omega), hV.cellv (a1 1 _ rfl) (by show ¬ w.heap.size < w.heap.size; omega), hV.cellv (a2 0 _ rfl) (by show ¬ w.heap.size + 1 < w.heap.size; omega), hV.cellv (a2 1 _ rfl) (by show ¬ w.heap.size + 1 < w.heap.size; omega)⟩
  have HA1 : Hid (Calls Tryz.prog 99 #[.pointer (some ⟨fb, 0, none⟩), .agg #[.int .i64 d, .string (mk s)]] V2 fun e w' => e = .returned (.int .i64 x) ∧ Hid (Nw V2 w')) := by
    have := at_any (H.nw hN2) d hd64 s hs hd hkd
    rw [hfd] at this
    exact this
  have HA2 : Hid (∀ V, Nw V2 V → Calls Tryz.prog 99 #[.pointer (some ⟨fb, 0, none⟩), .agg #[.int .i64 t, .string (mk s2)]] V fun e w' => e = .returned (.int .i64 ((pt.ents s2).getD 0)) ∧ Hid (Nw V2 w')) := fun V hV => (at_any (H.nw (hN2.trans hV)) t ht64 s2 hs2 ht hkt).mono (fun e w' hh => ⟨hh.1, hV.trans hh.2⟩)
  obtain ⟨S1, hS1⟩ : ∃ S1 : World → Prop, S1 = fun V => FsH fb mb ot L (wayH h wy) (wayQ q t s2 wy) (wayN cnt wy) T V ∧ Fr (fun k => k < w.heap.size) V2 V := ⟨_, rfl⟩
  have HW : Hid (∀ y py, wy = some (y, py) → ∀ V, Nw V2 V → Calls Tryz.prog 124 #[.pointer (some ⟨fb, 0, none⟩), .agg #[.int .i64 t, .string (mk s2)]] V fun e w' => (∃ r, e = .returned r) ∧ Hid (S1 w')) := fun y py e V hV => by
    subst e
    obtain ⟨w1, w2, w3, w4, w5, w6, w7⟩ := hw
    refine Calls.mono (leave_any (H.nw (hN2.trans hV)) t y ht64 w3 s2 hs2 ht hkt w1 w4 w5 w6 w7) ?_
    rintro e w' ⟨hr, g1, g2⟩
    refine ⟨hr, ?_⟩
    show S1 w'
    rw [hS1]
    have hyl := H.lt _ (.inr (.inr (.inr ⟨y, py, w4, .inl rfl⟩)))
    exact ⟨g1, hV.any.trans (g2.mono (fun i hi => .inl (by rcases hi with rfl | rfl | rfl | rfl <;> omega)))⟩
  have HW0 : Hid (wy = none → ∀ V, Nw V2 V → S1 V) := fun e V hV => by
    subst e
    rw [hS1]
    exact ⟨H.nw (hN2.trans hV), hV.any⟩
  obtain ⟨S2, hS2⟩ : ∃ S2 : World → Prop, S2 = fun V => FsH fb mb ot L (wayH h wy) (entQ (wayQ q t s2 wy) t s2 x) (wayN cnt wy) T V ∧ Fr (fun k => k < w.heap.size) V2 V := ⟨_, rfl⟩
  have HEn : Hid (∀ V, S1 V → Calls Tryz.prog 100 #[.pointer (some ⟨fb, 0, none⟩), .agg #[.int .i64 t, .string (mk s2)], .int .i64 x] V fun e w' => (∃ r, e = .returned r) ∧ Hid (S2 w')) := fun V hV => by
    rw [hS1] at hV
    refine Calls.mono (enter_any hV.1 t x ht64 hx64 s2 hs2 ht1 hk1 hf1 hn1 hx1 htx hl1) ?_
    rintro e w' ⟨hr, g1, g2⟩
    refine ⟨hr, ?_⟩
    show S2 w'
    rw [hS2]
    exact ⟨g1, hV.2.trans (g2.mono (fun i hi => .inl (by rcases hi with rfl | rfl <;> omega)))⟩
  have HLv : Hid (∀ V, S2 V → Calls Tryz.prog 124 #[.pointer (some ⟨fb, 0, none⟩), .agg #[.int .i64 d, .string (mk s)]] V fun e w' => (∃ r, e = .returned r) ∧ Hid (∀ r, P (.returned r) w')) := fun V hV => by
    rw [hS2] at hV
    refine Calls.mono (leave_any hV.1 d x hd64 hx64 s hs hd2 hk2 hf2 hx2 hdx hl2 hh2) ?_
    rintro e w' ⟨hr, g1, g2⟩
    refine ⟨hr, fun r => ?_⟩
    rw [hP]
    exact ⟨⟨r, rfl⟩, g1, (hN2.any.trans hV.2).trans (g2.mono (fun i hi => .inl (by rcases hi with rfl | rfl | rfl | rfl <;> omega)))⟩
  have HBN : Hid (∀ V, S1 V → Fr (fun k => k < w.heap.size) V2 V) := fun V hV => by rw [hS1] at hV; exact hV.2
  have HBN2 : Hid (∀ V, S2 V → Fr (fun k => k < w.heap.size) V2 V) := fun V hV => by rw [hS2] at hV; exact hV.2
  obtain ⟨c0, c1, c2, c3⟩ := HB.out V2 (Fr.refl _ _)
  have HV := tHid hV2
  cases wy with
  | none =>
    have hpn : pt.ents s2 = none := hw
    rw [hpn] at HA2
    clear H hP hV2 hN2 hs1 hsz2 hfm hd hkd hfd ht hkt hw ht1 hk1 hf1 hn1 hx1 htx hl1 hd2 hk2 hf2 hx2 hdx hl2 hh2 hLd hS1 hS2 HW hpn hs hs2 hd64 ht64 hx64
    generalize mk s = ss at *
    generalize mk s2 = ss2 at *
    go_enter Tryz.func103, Tryz.ntmps103
    go_upto_region 1 with fail
    rw [← HV.out]
    clear HV
    go_upto_region 2 with (first | (go_at_call 99; with_reducible refine HA1.out.mono ?_; rintro e w3 ⟨rfl, H3⟩))
    obtain ⟨d0, d1, d2, d3⟩ := HB.out w3 H3.out.any
    have CA2 := tHid (HA2.out w3 H3.out)
    clear HA1 HA2 c0 c1 c2 c3
    go_upto_region 4 with (first | (go_at_call 99; with_reducible refine CA2.out.mono ?_; rintro e w4 ⟨rfl, H4⟩))
    obtain ⟨e0, e1, e2, e3⟩ := HB.out w4 H4.out.any
    have CE := tHid (HEn.out w4 (HW0.out (by first | trivial | rfl) w4 H4.out))
    clear CA2 d0 d1 d2 d3 HEn HW0
    go_upto_region 5 with (first | (go_at_call 100; with_reducible refine CE.out.mono ?_; rintro e w5 ⟨⟨r5, rfl⟩, H5⟩))
    obtain ⟨k0, k1, k2, k3⟩ := HB.out w5 (HBN2.out w5 H5.out)
    have CL := tHid (HLv.out w5 H5.out)
    clear CE e0 e1 e2 e3 HLv HB HBN HBN2 H3 H4 H5
    go_wp2_with (first | (go_at_call 124; with_reducible refine CL.out.mono ?_; rintro e w6 ⟨⟨r6, rfl⟩, HF⟩))
    go_end0
    exact HF.out _
  | some z =>
    obtain ⟨y, py⟩ := z
    obtain ⟨hpn, hy0, _⟩ := id hw
    have hyb : (y != 0) = true := by simp [hy0]
    rw [hpn] at HA2
    have HW1 := tHid (HW.out y py rfl)
    clear H hP hV2 hN2 hs1 hsz2 hfm hd hkd hfd ht hkt hw ht1 hk1 hf1 hn1 hx1 htx hl1 hd2 hk2 hf2 hx2 hdx hl2 hh2 hLd hS1 hS2 HW HW0 hpn hs hs2 hd64 ht64 hx64
    generalize mk s = ss at *
    generalize mk s2 = ss2 at *
    go_enter Tryz.func103, Tryz.ntmps103
    go_upto_region 1 with fail
    rw [← HV.out]
    clear HV
    go_upto_region 2 with (first | (go_at_call 99; with_reducible refine HA1.out.mono ?_; rintro e w3 ⟨rfl, H3⟩))
    obtain ⟨d0, d1, d2, d3⟩ := HB.out w3 H3.out.any
    have CA2 : Hid (Calls Tryz.prog 99 #[.pointer (some ⟨fb, 0, none⟩), .agg #[.int .i64 t, .string ss2]] w3 fun e w' => e = .returned (.int .i64 y) ∧ Hid (Nw V2 w')) := HA2.out w3 H3.out
    clear HA1 HA2 c0 c1 c2 c3
    go_upto_region 3 with (first | (go_at_call 99; with_reducible refine CA2.out.mono ?_; rintro e w4 ⟨rfl, H4⟩))
    obtain ⟨e0, e1, e2, e3⟩ := HB.out w4 H4.out.any
    have CW := tHid (HW1.out w4 H4.out)
    clear CA2 d0 d1 d2 d3 HW1
    go_upto_region 4 with (first | (go_at_call 124; with_reducible refine CW.out.mono ?_; rintro e w7 ⟨⟨r7, rfl⟩, H7⟩))
    obtain ⟨n0, n1, n2, n3⟩ := HB.out w7 (HBN.out w7 H7.out)
    have CE := tHid (HEn.out w7 H7.out)
    clear CW e0 e1 e2 e3 HEn
    go_upto_region 5 with (first | (go_at_call 100; with_reducible refine CE.out.mono ?_; rintro e w5 ⟨⟨r5, rfl⟩, H5⟩))
    obtain ⟨k0, k1, k2, k3⟩ := HB.out w5 (HBN2.out w5 H5.out)
    have CL := tHid (HLv.out w5 H5.out)
    clear CE n0 n1 n2 n3 HLv HB HBN HBN2 H3 H4 H5 H7
    go_wp2_with (first | (go_at_call 124; with_reducible refine CL.out.mono ?_; rintro e w6 ⟨⟨r6, rfl⟩, HF⟩))
    go_end0
    exact HF.out _
end Go.Proofs.YtcogkhcfpgelhaaGreat
