import Derived.Test.YtcogkhcfpgelhabGreatVfV
import Derived.Laws.Tables
namespace Go.Proofs.YtcogkhcfpgelhabGreat
open Go.RowKit
set_option linter.unusedVariables false
set_option maxRecDepth 100000
variable {fb mb : Nat} {ot : Option Nat} {L : Int → Lay} {h : Hx} {q : Int → Option Pn} {cnt : Nat} {T : List Ac} {w w' : World} {X : Nat → Prop}
def stoV (t : TypeId) (a v : Value) : Sem Unit := Instr.storeAt t a v
theorem stoV_fold (t : TypeId) (a v : Value) : Instr.storeAt t a v = stoV t a v := rfl
theorem stoV_row (w : World) (g : Nat) (t ty : TypeId) (old cells : Array Value) (hg : w.heap[g]? = some (.cells old t (0, 0))) (hi : (Tryz.prog.info? ty).map (·.size) = some cells.size) (ho : old.size = cells.size) (h1 : cells.all (·.oneCell') = true) :
    (stoV ty (.pointer (some ⟨g, 0, none⟩)) (.agg cells)).run Tryz.prog w = .ok () (w.setRow g cells) := by
  unfold stoV
  simp only [Instr.storeAt, Instr.sureAddr, Sem.run_bind, Sem.run_pure, Result.andThen_ok, run_storeVar_row w g t ty old cells hg hi ho h1]
/-- What Stat tells. -/
abbrev stC (n : Int) (p : Pn) : Array Value := #[.int .i64 n, .int .i64 p.kind, .int .u32 p.mt.mode, .int .u32 p.mt.uid, .int .u32 p.mt.gid, .int .i64 p.mt.time, .int .i32 p.mt.nano, .int .i64 p.links, .int .i64 (sizN p)]
abbrev stZ : Array Value := #[.int .i64 0, .int .i64 0, .int .u32 0, .int .u32 0, .int .u32 0, .int .i64 0, .int .i32 0, .int .i64 0, .int .i64 0]
def stV (q : Int → Option Pn) (n : Int) : Value := match q n with
  | none => .tuple #[.agg stZ, .int .i64 100]
  | some p => .tuple #[.agg (stC n p), .int .i64 0]
theorem sret {R : Ending → World → Prop} {a : Act} {w : World} {row : Array Value} {v5 : Value} (rs : Nat) (h4 : a.tmps.getD 4 undef = .pointer (some ⟨rs, 0, none⟩)) (h5 : a.tmps.getD 5 undef = v5) (hrow : w.heap[rs]? = some (.cells row 64)) (hsz : row.size = 9) (hd : a.defers = []) (hR : R (.returned (.tuple #[.agg row, v5])) w) : bodyPost Tryz.prog Tryz.f22 R .ret a w := by
  have hi : (Tryz.prog.info? 64).map (·.size) = some row.size := by rw [hsz]; kernel_rfl
  have hl := run_loadVar_row (P := Tryz.prog) w rs 64 64 row (0, 0) _ hrow Tryz.underlying64 rfl hi
  have hp4 : a.tmps[4]?.getD undef = .pointer (some ⟨rs, 0, none⟩) := by simpa using h4
  have hp5 : a.tmps[5]?.getD undef = v5 := by simpa using h5
  refine bodyPost_ret ?_ hd hR
  simp [results, hp4, hp5, asAddr, hl]
section
attribute [local go_sem ↓] stoV_fold
set_option maxHeartbeats 8000000 in
theorem stat_any (H : FsH fb mb ot L h q cnt T w) (n : Int) (hn64 : I64 n) (hs : ∀ p, q n = some p → p.data.length ≤ 1000000000000000 ∧ p.ne ≤ 1000000000000000 ∧ p.tgt.length ≤ 1000000000000000) : Calls Tryz.prog 22 #[.pointer (some ⟨fb, 0, none⟩), .int .i64 n] w fun e w' => e = .returned (stV q n) ∧ Nw w w' := by
  obtain ⟨P, hP⟩ : ∃ P : Ending → World → Prop, P = fun e w' => e = .returned (stV q n) ∧ Nw w w' := ⟨_, rfl⟩
  rw [← hP]
  obtain ⟨V, hV⟩ : ∃ V, V = w.alloc (.cells stZ 64) := ⟨_, rfl⟩
  have hN : Nw w V := by rw [hV]; exact (Fr.refl _ _).alloc _
  have HV := H.nw hN
  have c0 := HV.cs.c0
  have hrb : V.heap[w.heap.size]? = some (.cells stZ 64) := by rw [hV]; exact nh _ _
  obtain ⟨rb, hrb2⟩ : ∃ rb, rb = w.heap.size := ⟨_, rfl⟩
  rw [← hrb2] at hrb
  have HW := tHid hV
  have HW2 := tHid hrb2
  rcases option_none_iff (q n) with hqn | ⟨p, hqn⟩
  · have hl := HV.look_none hn64 hqn
    have hst := stoV_row V rb 64 64 stZ stZ hrb (by kernel_rfl) rfl (by simp [Value.oneCell'])
    have HF : Hid (P (.returned (.tuple #[.agg stZ, .int .i64 100])) (V.setRow rb stZ)) := by
      show P _ _
      rw [hP]
      exact ⟨by unfold stV; rw [hqn], hN.setRow _ _ (.inr (by omega))⟩
    have hrow := setRow_heap V rb _ stZ 64 _ hrb
    have HROW := tHid hrow
    clear H HV hP hV hN hrow hrb hrb2
    unfold stZ at hst
    go_enter Tryz.func22, Tryz.ntmps22
    go_upto_region 1 with fail
    rw [← HW.out, ← HW2.out]
    clear HW HW2
    go_wp2_with fail
    exact sret (v5 := .int .i64 100) rb (by first | rfl | simp [Act.put]) (by first | rfl | simp [Act.put]) HROW.out rfl rfl HF.out
  · have hl := HV.look_some hn64 hqn
    obtain ⟨dv, ev, k1, k2, k3, k4⟩ := (HV.nd n p hqn).blk
    have x0 := (rc k1 0 _ rfl).1
    have x1 := (rc k1 1 _ rfl).1
    have x2 := (rc k1 2 _ rfl).1
    have x3 := (rc k1 3 _ rfl).1
    have x4 := (rc k1 4 _ rfl).1
    have x5 := (rc k1 5 _ rfl).1
    have x9 := (rc k1 9 _ rfl).1
    have HS : Hid (∀ k, Calls Tryz.prog 50 #[.pointer (some ⟨(L n).ib, 0, none⟩)] (V.drewN k) fun e w' => e = .returned (.int .i64 (sizN p)) ∧ ∃ m, w' = V.drewN m) := fun k => by
      refine (size_any (HV.nw ((Fr.refl _ _).drewN k)) n hqn (hs p hqn)).mono ?_
      rintro e w' ⟨rfl, m, rfl⟩
      exact ⟨rfl, k + m, by rw [World.drewN_drewN]⟩
    have hst := fun k => stoV_row (V.drewN k) rb 64 64 stZ (stC n p) hrb (by kernel_rfl) rfl (by simp [Value.oneCell'])
    have HF : Hid (∀ k, P (.returned (.tuple #[.agg (stC n p), .int .i64 0])) ((V.drewN k).setRow rb (stC n p))) := fun k => by
      show P _ _
      rw [hP]
      exact ⟨by unfold stV; rw [hqn], (hN.drewN k).setRow _ _ (.inr (by omega))⟩
    have HROW : Hid (∀ k, ((V.drewN k).setRow rb (stC n p)).heap[rb]? = some (.cells (stC n p) 64)) := fun k => setRow_heap (V.drewN k) rb _ (stC n p) 64 _ hrb
    obtain ⟨SS, hSS⟩ : ∃ SS : World → Prop, SS = fun W => W.cell? ⟨(L n).ib, 0, none⟩ = some (.int .i64 p.kind) ∧ W.cell? ⟨(L n).ib, 1, none⟩ = some (.int .u32 p.mt.mode) ∧ W.cell? ⟨(L n).ib, 2, none⟩ = some (.int .u32 p.mt.uid) ∧ W.cell? ⟨(L n).ib, 3, none⟩ = some (.int .u32 p.mt.gid) ∧ W.cell? ⟨(L n).ib, 4, none⟩ = some (.int .i64 p.mt.time) ∧ W.cell? ⟨(L n).ib, 5, none⟩ = some (.int .i32 p.mt.nano) ∧ W.cell? ⟨(L n).ib, 9, none⟩ = some (.int .i64 p.links) := ⟨_, rfl⟩
    have hne0 : ¬ (L n).ib = rb := by have := H.lt _ (.inr (.inr (.inr ⟨n, p, hqn, .inl rfl⟩))); omega
    have HSA : Hid (∀ k, SS (V.drewN k)) := fun k => by rw [hSS]; exact ⟨x0, x1, x2, x3, x4, x5, x9⟩
    have HSB : Hid (∀ k, SS ((V.drewN k).setRow rb (stC n p))) := fun k => by
      have f : Fr (fun b => b = rb) V ((V.drewN k).setRow rb (stC n p)) := ((Fr.refl (fun b => b = rb) V).drewN k).setRow rb _ (.inl rfl)
      rw [hSS]
      exact ⟨f.cellv x0 hne0, f.cellv x1 hne0, f.cellv x2 hne0, f.cellv x3 hne0, f.cellv x4 hne0, f.cellv x5 hne0, f.cellv x9 hne0⟩
    rw [hSS] at HSA HSB
    clear hSS
    clear SS
    have hne : ¬ (L n).ib = rb := by have := H.lt _ (.inr (.inr (.inr ⟨n, p, hqn, .inl rfl⟩))); omega
    clear H HV hP hV hN hrb hrb2 k1 k2 k3 k4
    unfold stC at *
    generalize (L n).ib = ib at *
    go_enter Tryz.func22, Tryz.ntmps22
    go_upto_region 1 with fail
    rw [← HW.out, ← HW2.out]
    clear HW HW2
    go_upto_region 4 with fail
    go_region_held3 (fun W => W.cell? ⟨ib, 0, none⟩ = some (.int .i64 p.kind) ∧ W.cell? ⟨ib, 1, none⟩ = some (.int .u32 p.mt.mode) ∧ W.cell? ⟨ib, 2, none⟩ = some (.int .u32 p.mt.uid) ∧ W.cell? ⟨ib, 3, none⟩ = some (.int .u32 p.mt.gid) ∧ W.cell? ⟨ib, 4, none⟩ = some (.int .i64 p.mt.time) ∧ W.cell? ⟨ib, 5, none⟩ = some (.int .i32 p.mt.nano) ∧ W.cell? ⟨ib, 9, none⟩ = some (.int .i64 p.links))
      (first | exact HSA.out _ | exact HSA.out 1 | exact HSB.out _)
      (first | (go_at_call 50; refine (HS.out _).mono ?_; rintro e w5 ⟨rfl, m, rfl⟩) | (go_at_call 50; refine (HS.out 1).mono ?_; rintro e w5 ⟨rfl, m, rfl⟩))
    all_goals go_wp2_with fail
    all_goals exact sret (v5 := .int .i64 0) rb (by first | rfl | simp [Act.put]) (by first | rfl | simp [Act.put]) (HROW.out m) rfl rfl (HF.out m)
end
end Go.Proofs.YtcogkhcfpgelhabGreat
