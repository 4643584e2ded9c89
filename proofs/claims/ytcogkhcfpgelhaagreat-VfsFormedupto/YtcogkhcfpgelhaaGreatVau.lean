import Derived.Test.YtcogkhcfpgelhaaGreatVaq
import Derived.Test.YtcogkhcfpgelhaaGreatVat
import Derived.Test.YtcogkhcfpgelhaaGreatVas
namespace Go.Proofs.YtcogkhcfpgelhaaGreat
open Go.RowKit
set_option linter.unusedVariables false
set_option maxRecDepth 100000
variable {fb mb : Nat} {ot : Option Nat} {L : Int → Lay} {h : Hx} {q : Int → Option Pn} {cnt : Nat} {T : List Ac} {w w' : World} {X : Nat → Prop}
/-! ### Rows of entries -/
def RNm : RT (Tx × Int) := { enc := fun x => [.string (mk x.1), .int .i64 x.2], k := 2, T := 109, TS := 56, z := ([], 0), by_ := 24 }
theorem rnmOk : RNm.Ok := by
  refine ⟨fun _ => rfl, by decide, fun x v hv => ?_, Tryz.underlying56, ?_⟩
  · simp only [RNm, List.mem_cons, List.mem_nil_iff, or_false] at hv
    rcases hv with rfl | rfl <;> rfl
  · have h : (Tryz.prog.info? 109).map (fun i => (i.zero, i.size, i.bytes)) = some (some (.agg #[.string ⟨#[]⟩, .int .i64 0]), 2, 24) := by kernel_rfl
    cases hq : Tryz.prog.info? 109 with
    | none => simp [hq] at h
    | some i => simp [hq] at h; exact ⟨i, _, hq, h.1, h.2.1, h.2.2, rfl⟩
theorem nm_push {og : Option Nat} {a : Option Addr} {c : Nat} {l : List (Tx × Int)} (hO : OgR RNm og (.slice a l.length c) l w) (hl : l.length ≤ 1000000000) (x : Tx × Int) :
    ∃ a' c' og' W, (∀ ty, (appV #[56, 56] ty #[.slice a l.length c, .slice (some ⟨w.heap.size, 0, none⟩) 1 1]).run Tryz.prog (w.alloc (.cells #[.string (mk x.1), .int .i64 x.2] 109)) = .ok (.slice a' (l.length + 1) c') W) ∧ OgR RNm og' (.slice a' (l.length + 1) c') (l ++ [x]) W ∧ Fr (fun k => og = some k) w W ∧ Went og og' w := by
  have hN : Nw w (w.alloc (.cells (RNm.enc x).toArray 109)) := (Fr.refl _ _).alloc _
  have hb := OwR.built rnmOk w [x] (RNm.enc x).toArray (by simp [flatR]) (by simp)
  obtain ⟨v', og', W, k1, k2, k3, k4⟩ := ogR_app rnmOk _ og _ l (hO.nw hN) (.slice (some ⟨w.heap.size, 0, none⟩) 1 1) [x] ((hb.slr rnmOk).mono (fun _ h => h.elim)) (by simp only [RNm, List.length_singleton]; omega) (by simp only [List.length_singleton]; omega)
  obtain ⟨a', c', e2, q1, q2⟩ := k2.form
  rw [List.length_append, List.length_singleton] at e2 q1
  subst e2
  refine ⟨a', c', og', W, k1, k2, hN.any.trans k3, ?_⟩
  rcases k4 with e | ⟨g, e, hg⟩
  · exact .inl e
  · have hs := hN.size
    exact .inr ⟨g, e, by omega⟩
theorem key_uniq {m : List (Tx × Int)} (hm : m.Pairwise (fun x y => lt x.1 y.1 = true)) {x y : Tx × Int} (hx : x ∈ m) (hy : y ∈ m) (e : x.1 = y.1) : x = y := by
  induction m with
  | nil => cases hx
  | cons z r ih =>
    obtain ⟨h1, h2⟩ := List.pairwise_cons.1 hm
    rcases List.mem_cons.1 hx with e1 | hx1
    · rcases List.mem_cons.1 hy with e2 | hy1
      · rw [e1, e2]
      · have := h1 y hy1
        rw [← e1, ← e, lt_irrefl] at this; cases this
    · rcases List.mem_cons.1 hy with e2 | hy1
      · have := h1 x hx1
        rw [← e2, e, lt_irrefl] at this; cases this
      · exact ih h2 hx1 hy1
/-- Sorted in one way alone. -/
theorem srt_one {l m : List (Tx × Int)} (hp : l.Perm m) (hl : l.Pairwise (fun x y => lt y.1 x.1 = false)) (hm : m.Pairwise (fun x y => lt x.1 y.1 = true)) : l = m := by
  have hm2 : m.Pairwise (fun x y => lt y.1 x.1 = false) := hm.imp (fun {x y} h => lt_asymm h)
  refine List.Perm.eq_of_pairwise (le := fun x y => lt y.1 x.1 = false) (fun x y hx hy h1 h2 => ?_) hl hm2 hp
  have hx' := hp.mem_iff.1 hx
  refine key_uniq hm hx' hy ?_
  rcases lt_tri x.1 y.1 with e | e | e
  · rw [e] at h2; cases h2
  · exact e
  · rw [e] at h1; cases h1
/-- What slices.SortFunc does with entries. -/
def SortC : Prop := ∀ (W : World) (og : Option Nat) (a : Option Addr) (c : Nat) (l : List (Tx × Int)), OgR RNm og (.slice a l.length c) l W → l.length ≤ 1000000000 → Calls Tryz.prog 108 #[.slice a l.length c, .func (.func 109) #[] #[]] W fun e w' => e = .returned (.tuple #[]) ∧ ∃ l', l'.Perm l ∧ l'.Pairwise (fun x y => lt y.1 x.1 = false) ∧ OgR RNm og (.slice a l.length c) l' w' ∧ Fr (fun k => og = some k) W w'
/-- How list's loop stands. -/
def LsI (w : World) (eb r n : Nat) (es done : List (Tx × Int)) (a : Option Addr) (c : Nat) (wr : World) : Prop := ∃ og, OgR RNm og (.slice a done.length c) done wr ∧ Gt ME eb r n es done wr ∧ Nw w wr ∧ w.heap.size ≤ r ∧ (∀ g, og = some g → w.heap.size ≤ g ∧ g ≠ r)
/-- What list answers. -/
def LstO (w : World) (es : List (Tx × Int)) (e : Ending) (w' : World) : Prop := ∃ og a c, e = .returned (.slice a es.length c) ∧ OgR RNm og (.slice a es.length c) es w' ∧ Nw w w' ∧ ∀ g, og = some g → w.heap.size ≤ g
section
attribute [local go_sem ↓] appV_fold
set_option maxHeartbeats 8000000 in
theorem list_dir (hS : SortC) (H : FsH fb mb ot L h q cnt T w) {d : Int} {p : Pn} (hq : q d = some p) (hk : p.kind = 1) (es : List (Tx × Int)) (hE : Ents ME p.ents p.ne es) (hs : es.Pairwise (fun x y => lt x.1 y.1 = true)) (hn : p.ne ≤ 1000000) :
    Calls Tryz.prog 69 #[.pointer (some ⟨(L d).ib, 0, none⟩)] w (LstO w es) := by
  obtain ⟨P, hP⟩ : ∃ P : Ending → World → Prop, P = LstO w es := ⟨_, rfl⟩
  rw [← hP]
  obtain ⟨dv, ev, k1, k2, k3, k4⟩ := (H.nd d p hq).blk
  have x8 := (ndc_of k1).c8
  rw [(k3 hk).1] at x8
  obtain ⟨W0, hrg, hG0, hN0⟩ := (k3 hk).2.range meOk hE
  have hrg' : (Instr.range 102 (.map (some (L d).eb))).run Tryz.prog w = .ok (.pointer (some ⟨w.heap.size, 0, none⟩)) W0 := hrg
  have HI0 : Hid (LsI w (L d).eb w.heap.size p.ne es [] none 0 W0) := ⟨none, ⟨rfl, rfl⟩, hG0, hN0, Nat.le_refl _, fun g hg => by cases hg⟩
  have HEN := tHid hE
  have HSR := tHid hs
  have HSC := tHid hS
  have HEB := tHid (k3 hk).2.lt
  have HPE := tHid hP
  clear hrg hG0 hN0 H k1 k2 k3 k4 hE hs hS hP hk hq
  generalize (L d).ib = ib at *
  generalize (L d).eb = eb at *
  generalize p.ents = pe at *
  generalize p.ne = n at *
  obtain ⟨r, hr⟩ : ∃ r, r = w.heap.size := ⟨_, rfl⟩
  rw [← hr] at hrg' HI0
  clear hr
  go_enter Tryz.func69, Tryz.ntmps69
  go_wp2_with fail
  go_loopg [3, 4, 5] n (fun kx v x4 x5 wr => ∃ (done : List (Tx × Int)) (a : Option Addr) (c N : Nat), v = .slice a N c ∧ n - N ≤ kx ∧ Hid (N = done.length ∧ LsI w eb r n es done a c wr))
  case atStart => exact ⟨[], none, 0, 0, rfl, by omega, rfl, HI0.out⟩
  case round =>
    obtain ⟨done, a, c, N, rfl, hkx, HI⟩ := hrel
    obtain ⟨hNd, og, hO, hG, hNw, hr, hog⟩ := HI.out
    have hebl := HEB.out
    rcases hG.next meOk with ⟨hnx, hall⟩ | ⟨x, W, hx, hxd, hnx, hen, hG2, hF2⟩
    · have hperm : done.Perm es := by
        obtain ⟨D, left, cnt, g1, g2, g3, g4, g5, g6, g7, g8⟩ := hG
        exact (List.perm_ext_iff_of_nodup g8 (List.nodup_iff_pairwise_ne.2 (HSR.out.imp (fun {x y} h e => by rw [e, lt_irrefl] at h; cases h)))).2 (fun x => ⟨g7 x, hall x⟩)
      have hl : done.length = es.length := hperm.length_eq
      have HC : Hid (Calls Tryz.prog 108 #[.slice a N c, .func (.func 109) #[] #[]] wr fun e w' => e = .returned (.tuple #[]) ∧ Hid (P (.returned (.slice a N c)) w')) := by
        rw [hNd]
        refine Calls.mono (HSC.out wr og a c done hO (by have := HEN.out.len; omega)) ?_
        rintro e w5 ⟨rfl, l', p1, p2, p3, p4⟩
        refine ⟨rfl, ?_⟩
        show P _ _
        rw [HPE.out]
        have e1 : l' = es := srt_one (p1.trans hperm) p2 HSR.out
        rw [e1] at p3
        exact ⟨og, a, c, by rw [hl], by rw [← hl]; exact p3, hNw.then p4 (fun i hi => .inr (hog i hi).1), fun g hg => (hog g hg).1⟩
      clear HI hO hG hNw hog hall hperm hl hNd HEN HSR HSC HPE HEB hebl hrg' HI0
      go_wp2_with (first | (go_at_call 108; with_reducible refine HC.out.mono ?_; rintro e w5 ⟨rfl, HF⟩))
      exact HF.out
    · have hnx' : ∀ ty, (Instr.next (.pointer (some ⟨r, 0, none⟩)) false ty).run Tryz.prog wr = .ok (.tuple #[.bool true, .string (mk x.1), .int .i64 x.2]) W := hnx
      have hen' : (Instr.entry (.pointer (some ⟨r, 0, none⟩))).run Tryz.prog W = .ok (.tuple #[.string (mk x.1), .int .i64 x.2]) W := hen
      have hO2 : OgR RNm og (.slice a done.length c) done W := hO.kept hF2 (fun g hg e => (hog g hg).2 e)
      have hN1 : N + 1 ≤ n := by
        obtain ⟨D, left, cnt, g1, g2, _⟩ := hG2
        rw [List.length_append, List.length_singleton] at g2
        omega
      obtain ⟨a', c', og', W2, q1, q2, q3, q4⟩ := nm_push hO2 (by omega) x
      rw [← hNd] at q1
      have HR : Hid (N + 1 = (done ++ [x]).length ∧ LsI w eb r n es (done ++ [x]) a' c' W2) := by
        have hNW : Nw w W := hNw.then hF2 (fun i hi => .inr (by omega))
        have hsW := hNW.size
        refine ⟨by rw [List.length_append, List.length_singleton, hNd], og', by rw [List.length_append, List.length_singleton]; exact q2, hG2.kept q3 (fun e => ?_) (fun e => (hog r e).2 rfl), hNW.then q3 (fun i hi => .inr (hog i hi).1), hr, fun g hg => ?_⟩
        · have := (hog eb e).1; omega
        · rcases q4 with e | ⟨g', e, hg'⟩
          · rw [e] at hg; exact hog g hg
          · rw [e] at hg
            injection hg with hg
            have := hG2.lt.1
            exact ⟨by omega, by omega⟩
      clear HI hO hO2 hG hG2 hNw hog hnx hen hx hxd hF2 q2 q3 q4 hNd HEN HSR HSC HPE HEB hebl hrg' HI0
      generalize mk x.1 = sx at *
      generalize x.2 = ix at *
      go_wp2_with fail
      go_roundg (n - (N + 1))
      case measure => omega
      case rel => exact ⟨done ++ [x], a', c', N + 1, rfl, by omega, HR.out⟩
set_option maxHeartbeats 8000000 in
theorem list_other (hS : SortC) (H : FsH fb mb ot L h q cnt T w) {d : Int} {p : Pn} (hq : q d = some p) (hk : p.kind ≠ 1) : Calls Tryz.prog 69 #[.pointer (some ⟨(L d).ib, 0, none⟩)] w (LstO w []) := by
  obtain ⟨P, hP⟩ : ∃ P : Ending → World → Prop, P = LstO w [] := ⟨_, rfl⟩
  rw [← hP]
  obtain ⟨dv, ev, k1, k2, k3, k4⟩ := (H.nd d p hq).blk
  have x8 := (ndc_of k1).c8
  rw [(k4 hk).1] at x8
  have hrg := run_range_nilMap (P := Tryz.prog) w 102 9 3 Tryz.underlying102
  have hnx : ∀ ty, (Instr.next (.pointer (some ⟨w.heap.size, 0, none⟩)) false ty).run Tryz.prog (w.alloc (.mapIter none 0 #[] 0)) = _ := fun ty => run_next_nilMap _ ty 0 0 #[]
  have HC : Hid (∀ V, Nw w V → Calls Tryz.prog 108 #[.slice none 0 0, .func (.func 109) #[] #[]] V fun e w' => e = .returned (.tuple #[]) ∧ Hid (P (.returned (.slice none 0 0)) w')) := fun V hV => by
    refine Calls.mono (hS V none none 0 [] ⟨rfl, rfl⟩ (by simp)) ?_
    rintro e w5 ⟨rfl, l', p1, p2, p3, p4⟩
    refine ⟨rfl, ?_⟩
    show P _ _
    rw [hP]
    have e1 : l' = [] := p1.eq_nil
    rw [e1] at p3
    exact ⟨none, none, 0, rfl, p3, hV.then p4 (fun i hi => by cases hi), fun g hg => by cases hg⟩
  have HC2 := tHid (HC.out (w.alloc (.mapIter none 0 #[] 0)) ((Fr.refl _ _).alloc _))
  clear H hP k1 k2 k3 k4 hq hS HC
  generalize (L d).ib = ib at *
  go_enter Tryz.func69, Tryz.ntmps69
  go_wp2_with fail
  go_loopg [3, 4, 5] 0 (fun kx v x4 x5 wr => v = .slice none 0 0 ∧ wr = w.alloc (.mapIter none 0 #[] 0))
  case atStart => exact ⟨rfl, rfl⟩
  case round =>
    obtain ⟨rfl, rfl⟩ := hrel
    go_wp2_with (first | (go_at_call 108; with_reducible refine HC2.out.mono ?_; rintro e w5 ⟨rfl, HF⟩))
    exact HF.out
end
end Go.Proofs.YtcogkhcfpgelhaaGreat

namespace Go.Proofs.YtcogkhcfpgelhaaGreat
open Go.RowKit
set_option linter.unusedVariables false
set_option maxRecDepth 100000
variable {w w' : World} {X : Nat → Prop}
/-! ### Rows of inodes, as an image has them -/
/-- A slice, and where it lies. -/
structure S3 where
  a : Option Addr
  n : Nat
  c : Nat
/-- An inode of an image, its bytes and its entries as slices. -/
structure Nq where
  x : Nd
  d : S3
  e : S3
def RNq : RT Nq := { enc := fun y => [.int .i64 y.x.num, .int .i64 y.x.kind, .int .u32 y.x.mt.mode, .int .u32 y.x.mt.uid, .int .u32 y.x.mt.gid, .int .i64 y.x.mt.time, .int .i32 y.x.mt.nano, .slice y.d.a y.d.n y.d.c, .string (mk y.x.tgt), .slice y.e.a y.e.n y.e.c], k := 10, T := 58, TS := 35, z := ⟨⟨0, 0, ⟨0, 0, 0, 0, 0⟩, [], [], []⟩, ⟨none, 0, 0⟩, ⟨none, 0, 0⟩⟩, by_ := 112 }
theorem rnqOk : RNq.Ok := by
  refine ⟨fun _ => rfl, by decide, fun x v hv => ?_, Tryz.underlying35, ?_⟩
  · simp only [RNq, List.mem_cons, List.mem_nil_iff, or_false] at hv
    rcases hv with rfl | rfl | rfl | rfl | rfl | rfl | rfl | rfl | rfl | rfl <;> rfl
  · have h : (Tryz.prog.info? 58).map (fun i => (i.zero, i.size, i.bytes)) = some (some (.agg #[.int .i64 0, .int .i64 0, .int .u32 0, .int .u32 0, .int .u32 0, .int .i64 0, .int .i32 0, .slice none 0 0, .string ⟨#[]⟩, .slice none 0 0]), 10, 112) := by kernel_rfl
    cases hq : Tryz.prog.info? 58 with
    | none => simp [hq] at h
    | some i => simp [hq] at h; exact ⟨i, _, hq, h.1, h.2.1, h.2.2, rfl⟩
/-- The bytes and the entries of an image's inode lie in blocks of their own, made since D. -/
def NqI (D : World) (y : Nq) (w : World) : Prop := (∃ od, OgB od (.slice y.d.a y.d.n y.d.c) y.x.data w ∧ ∀ g, od = some g → D.heap.size ≤ g) ∧ ∃ oe, OgR RNm oe (.slice y.e.a y.e.n y.e.c) y.x.ents w ∧ ∀ g, oe = some g → D.heap.size ≤ g
/-- An image's list, made since D. -/
def ImI (D : World) (v : Value) (l : List Nq) (w : World) : Prop := Nw D w ∧ (∃ og, OgR RNq og v l w ∧ ∀ g, og = some g → D.heap.size ≤ g) ∧ ∀ y ∈ l, NqI D y w
theorem NqI.nw {D : World} {y : Nq} (h : NqI D y w) (f : Nw w w') : NqI D y w' := by
  obtain ⟨⟨od, h1, h2⟩, oe, h3, h4⟩ := h
  exact ⟨⟨od, h1.nw f, h2⟩, oe, h3.nw f, h4⟩
theorem ImI.nw {D : World} {v : Value} {l : List Nq} (h : ImI D v l w) (f : Nw w w') : ImI D v l w' := by
  obtain ⟨h1, ⟨og, h2, h3⟩, h4⟩ := h
  exact ⟨h1.trans f, ⟨og, h2.nw f, h3⟩, fun y hy => (h4 y hy).nw f⟩
theorem ogr_tg {α : Type} {R : RT α} {og : Option Nat} {v : Value} {l : List α} (h : OgR R og v l w) (g : Nat) (hg : og = some g) : tg w g = some R.T := by
  subst hg
  obtain ⟨xs, _, _, _, _, h5⟩ := (h : OwR R g v l w)
  exact tg_cells h5
/-- One more inode behind the list: what its inodes hold lies in rows of other types. -/
theorem ImI.push {D : World} {a : Option Addr} {c : Nat} {l : List Nq} (h : ImI D (.slice a l.length c) l w) (hl : l.length ≤ 1000000000) (y : Nq) (hy : NqI D y w) :
    ∃ a' c' W, (∀ ty, (appV #[35, 35] ty #[.slice a l.length c, .slice (some ⟨w.heap.size, 0, none⟩) 1 1]).run Tryz.prog (w.alloc (.cells (RNq.enc y).toArray 58)) = .ok (.slice a' (l.length + 1) c') W) ∧ ImI D (.slice a' (l.length + 1) c') (l ++ [y]) W ∧ Fr (fun k => D.heap.size ≤ k ∧ tg w k = some 58) w W := by
  obtain ⟨h1, ⟨og, h2, h3⟩, h4⟩ := h
  have hN : Nw w (w.alloc (.cells (RNq.enc y).toArray 58)) := (Fr.refl _ _).alloc _
  have hb := OwR.built rnqOk w [y] (RNq.enc y).toArray (by simp [flatR]) (by simp)
  obtain ⟨v', og', W, k1, k2, k3, k4⟩ := ogR_app rnqOk _ og _ l (h2.nw hN) (.slice (some ⟨w.heap.size, 0, none⟩) 1 1) [y] ((hb.slr rnqOk).mono (fun _ h => h.elim)) (by simp only [RNq, List.length_singleton]; omega) (by simp only [List.length_singleton]; omega)
  obtain ⟨a', c', e2, q1, q2⟩ := k2.form
  rw [List.length_append, List.length_singleton] at e2 q1
  subst e2
  have hsz := h1.size
  have hs2 := hN.size
  have hkeep : ∀ z, NqI D z w → NqI D z W := fun z hz => by
    obtain ⟨⟨od, z1, z2⟩, oe, z3, z4⟩ := hz.nw hN
    refine ⟨⟨od, z1.kept k3 (fun g hg e => ?_), z2⟩, oe, z3.kept k3 (fun g hg e => ?_), z4⟩
    · have t1 := ogr_tg (h2.nw hN) g e
      rw [hg] at z1
      rw [z1.tg] at t1
      exact absurd t1 (by decide)
    · have t1 := ogr_tg (h2.nw hN) g e
      rw [ogr_tg z3 g hg] at t1
      exact absurd t1 (by decide)
  refine ⟨a', c', W, k1, ⟨h1.then (hN.any.trans k3) (fun i hi => .inr (h3 i hi)), ⟨og', k2, fun g hg => ?_⟩, fun z hz => ?_⟩, (hN.any.trans k3).mono (fun i hi => .inl ⟨h3 i hi, ogr_tg h2 i hi⟩)⟩
  · rcases k4 with e | ⟨g', e, hg'⟩
    · rw [e] at hg; exact h3 g hg
    · rw [e] at hg; injection hg with hg; omega
  · rcases List.mem_append.1 hz with hz | hz
    · exact hkeep z (h4 z hz)
    · rw [List.mem_singleton] at hz; rw [hz]; exact hkeep y hy
end Go.Proofs.YtcogkhcfpgelhaaGreat

namespace Go.Proofs.YtcogkhcfpgelhaaGreat
open Go.RowKit
set_option linter.unusedVariables false
set_option maxRecDepth 100000
variable {w w' : World} {X : Nat → Prop}
/-! ### An image that can be read -/
def NqR (y : Nq) (w : World) : Prop := Sl (fun _ => False) (.slice y.d.a y.d.n y.d.c) y.x.data w ∧ SlR RNm (fun _ => False) (.slice y.e.a y.e.n y.e.c) y.x.ents w
def ImR (v : Value) (l : List Nq) (w : World) : Prop := SlR RNq (fun _ => False) v l w ∧ ∀ y ∈ l, NqR y w
theorem NqR.nw {y : Nq} (h : NqR y w) (f : Nw w w') : NqR y w' := ⟨h.1.nw f, h.2.nw f⟩
theorem ImR.nw {v : Value} {l : List Nq} (h : ImR v l w) (f : Nw w w') : ImR v l w' := ⟨h.1.nw f, fun y hy => (h.2 y hy).nw f⟩
theorem NqI.r {D : World} {y : Nq} (h : NqI D y w) : NqR y w := by
  obtain ⟨⟨od, h1, _⟩, oe, h3, _⟩ := h
  exact ⟨h1.sl.mono (fun _ h => h.elim), (h3.slr rnmOk).mono (fun _ h => h.elim)⟩
theorem ImI.r {D : World} {v : Value} {l : List Nq} (h : ImI D v l w) : ImR v l w := by
  obtain ⟨_, ⟨og, h2, _⟩, h4⟩ := h
  exact ⟨(h2.slr rnqOk).mono (fun _ h => h.elim), fun y hy => (h4 y hy).r⟩
theorem NqR.dn {y : Nq} (h : NqR y w) : y.d.n = y.x.data.length ∧ y.d.c < 9223372036854775808 ∧ y.d.n ≤ y.d.c := by
  obtain ⟨a, c, e, h1, h2⟩ := h.1.form
  injection e with _ e2 e3
  exact ⟨e2, by rw [e3]; exact h2, by rw [e2, e3]; exact h1⟩
theorem NqR.en {y : Nq} (h : NqR y w) : y.e.n = y.x.ents.length ∧ y.e.c < 9223372036854775808 ∧ y.e.n ≤ y.e.c := by
  obtain ⟨a, c, e, h1, h2, _⟩ := h.2.form
  injection e with _ e2 e3
  exact ⟨e2, by rw [e3]; exact h2, by rw [e2, e3]; exact h1⟩
/-- What the texts and lists of an image's inode may be. -/
structure NdW (x : Nd) : Prop where
  tl : x.tgt.length ≤ 140737488351232
  nl : ∀ e ∈ x.ents, e.1.length ≤ 140737488351232
  e64 : ∀ e ∈ x.ents, I64 e.2
  n64 : I64 x.num
  k64 : I64 x.kind
  dl : x.data.length ≤ 140737488351232
  el : x.ents.length ≤ 1000000000
/-! ### Names -/
theorem leS (l m : Tx) (w : World) : (binOp BinOp.leq 9 (.string (mk l)) (.string (mk m))).run Tryz.prog w = .ok (.bool (!lt m l)) w := by
  have : (lt l m || l == m) = !lt m l := by
    rcases lt_tri l m with h | h | h
    · rw [h, lt_asymm h]; rfl
    · subst h; rw [lt_irrefl]; simp
    · rw [h, lt_asymm h]
      have : (l == m) = false := by
        rw [beq_eq_false_iff_ne]
        intro e; subst e; rw [lt_irrefl] at h; cases h
      rw [this]; rfl
  simp [binOp, Op.stringOp, mk_toList, this]
theorem cmpS3 (s last : Tx) : (lt last s = true ∧ Op.bytesLess (mk s).toList (mk last).toList = false ∧ ((mk s).toList == (mk last).toList) = false) ∨ (lt last s = false ∧ ((Op.bytesLess (mk s).toList (mk last).toList = true ∧ ((mk s).toList == (mk last).toList) = false) ∨ (Op.bytesLess (mk s).toList (mk last).toList = false ∧ ((mk s).toList == (mk last).toList) = true))) := by
  rw [mk_toList, mk_toList]
  rcases lt_tri s last with h | h | h
  · refine .inr ⟨lt_asymm h, .inl ⟨h, ?_⟩⟩
    rw [beq_eq_false_iff_ne]
    intro e; subst e; rw [lt_irrefl] at h; cases h
  · subst h
    exact .inr ⟨lt_irrefl s, .inr ⟨lt_irrefl s, by simp⟩⟩
  · refine .inl ⟨h, lt_asymm h, ?_⟩
    rw [beq_eq_false_iff_ne]
    intro e; subst e; rw [lt_irrefl] at h; cases h
theorem entsG_drop {es : List (Tx × Int)} {I : Nat} (h : I < es.length) (last : Tx) : entsG last (es.drop I) = (lt last (es[I]).1 && nmOk (es[I]).1 && entsG (es[I]).1 (es.drop (I + 1))) := by
  rw [List.drop_eq_getElem_cons h]; rfl
set_option maxHeartbeats 8000000 in
theorem entries_any (es : List (Tx × Int)) (a : Option Addr) (n c : Nat) (hn : n = es.length) (hs : SlR RNm (fun _ => False) (.slice a n c) es w) (hl : ∀ e ∈ es, e.1.length ≤ 140737488351232) (hel : es.length ≤ 1000000000000) :
    Calls Tryz.prog 131 #[.slice a n c] w fun e w' => e = .returned (.bool (entsG [] es)) ∧ Nw w w' := by
  obtain ⟨P, hP⟩ : ∃ P : Ending → World → Prop, P = fun e w' => e = .returned (.bool (entsG [] es)) ∧ Nw w w' := ⟨_, rfl⟩
  rw [← hP]
  have HF : Hid (∀ V b, Nw w V → entsG [] es = b → P (.returned (.bool b)) V) := fun V b hV hb => by rw [hP, ← hb]; exact ⟨rfl, hV⟩
  have HN : Hid (∀ l W, l.length ≤ 140737488351232 → Calls Tryz.prog 122 #[.string (mk l)] W fun e w' => e = .returned (.bool (nmOk l)) ∧ W = w') := fun l W h => isName_any l W h
  have HS := tHid hs
  have HL := tHid hl
  have HNN := tHid hn
  have HE := tHid hel
  clear hP hs hl hn hel
  go_enter Tryz.func131, Tryz.ntmps131
  go_wp2_with fail
  go_loopg [3, 8] n (fun kx s3 i wr => ∃ (I : Nat) (last : Tx), I ≤ n ∧ n - I ≤ kx ∧ s3 = .string (mk last) ∧ i = .int .i64 I ∧ Hid (Nw w wr ∧ entsG [] es = entsG last (es.drop I)))
  case atStart => exact ⟨0, [], by omega, by omega, rfl, rfl, Fr.refl _ _, rfl⟩
  case round =>
    obtain ⟨I, last, hI, hkx, rfl, rfl, HR⟩ := hrel
    by_cases hlt : I < n
    · have hIl : I < es.length := by rw [← HNN.out]; exact hlt
      obtain ⟨g, o, rfl, _, hc⟩ := (HS.out.nw HR.out.1).at I (es[I]) (List.getElem?_eq_getElem hIl)
      have c0 : wr.cell? ⟨g, o + I * 2, none⟩ = some (.string (mk (es[I]).1)) := hc 0 _ rfl
      have c1 : wr.cell? ⟨g, o + I * 2 + 1, none⟩ = some (.int .i64 (es[I]).2) := hc 1 _ rfl
      obtain ⟨s, k, he⟩ : ∃ s k, es[I] = (s, k) := ⟨_, _, rfl⟩
      have hst := entsG_drop hIl last
      rw [he] at hst c0 c1
      have hsl := HL.out _ (List.getElem_mem hIl)
      rw [he] at hsl
      have HSL := tHid hsl
      have hlt2 : (I : Int) < (n : Int) := by omega
      have hltd := decide_eq_true hlt2
      have hltn := decide_eq_true hlt
      obtain ⟨V3, hV3⟩ : ∃ V3, wr.alloc (.cells #[.string (mk s), .int .i64 k] 109) = V3 := ⟨_, rfl⟩
      have hN3 : Nw wr V3 := by rw [← hV3]; exact (Fr.refl _ _).alloc _
      have y0 : V3.cell? ⟨wr.heap.size, 0, none⟩ = some (.string (mk s)) := by rw [← hV3]; exact (rc (nh wr _) 0 _ rfl).1
      have HR2 : Hid (Nw w V3 ∧ entsG [] es = (lt last s && nmOk s && entsG s (es.drop (I + 1)))) := ⟨HR.out.1.trans hN3, by rw [HR.out.2, hst]⟩
      have zwj : IntKind.i64.wrap ((I : Int) + 1) = (I : Int) + 1 := by rw [IntKind.wrap_i64]; have := HE.out; have := HNN.out; omega
      have hkl : (0 : Int) ≤ (I : Int) := by omega
      clear HR hN3 hst hsl hc he hIl
      have hcmp : (lt last s = true ∧ Op.bytesLess (mk s).toList (mk last).toList = false ∧ ((mk s).toList == (mk last).toList) = false) ∨ (lt last s = false ∧ ((Op.bytesLess (mk s).toList (mk last).toList = true ∧ ((mk s).toList == (mk last).toList) = false) ∨ (Op.bytesLess (mk s).toList (mk last).toList = false ∧ ((mk s).toList == (mk last).toList) = true))) := cmpS3 s last
      rcases hcmp with ⟨hb1, hx1, hx2⟩ | ⟨hb1, hx⟩
      · rcases Bool.eq_false_or_eq_true (nmOk s) with hb2 | hb2
        · have HR3 : Hid (Nw w V3 ∧ entsG [] es = entsG s (es.drop (I + 1))) := ⟨HR2.out.1, by rw [HR2.out.2, hb1, hb2]; rfl⟩
          have HNM := tHid (HN.out s V3 HSL.out)
          rw [hb2] at HNM
          clear HR2 hb1 hb2 HF HN HS HL HE HNN
          go_wp2_with (first | (go_at_call 122; with_reducible refine HNM.out.mono ?_; rintro e w4 ⟨rfl, rfl⟩))
          go_roundg (n - (I + 1))
          case measure => omega
          case rel => exact ⟨I + 1, s, by omega, by omega, rfl, by first | rfl | (congr 1), HR3⟩
        · have HF2 := tHid (HF.out V3 false HR2.out.1 (by rw [HR2.out.2, hb1, hb2]; rfl))
          have HNM := tHid (HN.out s V3 HSL.out)
          rw [hb2] at HNM
          clear HR2 hb1 hb2 HF HN HS HL HE HNN
          go_wp2_with (first | (go_at_call 122; with_reducible refine HNM.out.mono ?_; rintro e w4 ⟨rfl, rfl⟩))
          exact HF2.out
      · have HF2 := tHid (HF.out V3 false HR2.out.1 (by rw [HR2.out.2, hb1]; rfl))
        clear HR2 hb1 HF HN HS HL HE HNN
        rcases hx with ⟨hx1, hx2⟩ | ⟨hx1, hx2⟩
        · go_wp2_with fail
          exact HF2.out
        · go_wp2_with fail
          exact HF2.out
    · have hIe : I = n := by omega
      have hlt2 : ¬ (I : Int) < (n : Int) := by omega
      have hltd := decide_eq_false hlt2
      have hltn := decide_eq_false hlt
      have HF2 := tHid (HF.out wr true HR.out.1 (by rw [HR.out.2, hIe, HNN.out, List.drop_length]; rfl))
      clear HR HF HN HS HL HE HNN hIe
      go_wp2_with fail
      exact HF2.out
end Go.Proofs.YtcogkhcfpgelhaaGreat

namespace Go.Proofs.YtcogkhcfpgelhaaGreat
open Go.RowKit
set_option linter.unusedVariables false
set_option maxRecDepth 100000
variable {w w' : World} {X : Nat → Prop}
theorem ndB_dir {x : Nd} (h : x.kind = 1) : ndB x = (decide (x.data = []) && decide (x.tgt = []) && entsG [] x.ents && mtOk x.mt) := by unfold ndB; rw [if_pos h]
theorem ndB_file {x : Nd} (h : x.kind = 2) : ndB x = (decide (x.data.length ≤ 4194304) && decide (x.tgt = []) && decide (x.ents = []) && mtOk x.mt) := by unfold ndB; rw [if_neg (by omega), if_pos h]
theorem ndB_link {x : Nd} (h : x.kind = 3) : ndB x = (decide (x.data = []) && tgOk x.tgt && decide (x.ents = []) && mtOk x.mt) := by unfold ndB; rw [if_neg (by omega), if_neg (by omega), if_pos h]
theorem ndB_none {x : Nd} (h1 : x.kind ≠ 1) (h2 : x.kind ≠ 2) (h3 : x.kind ≠ 3) : ndB x = false := by unfold ndB; rw [if_neg h1, if_neg h2, if_neg h3]
theorem len0 {α : Type} (l : List α) : decide ((l.length : Int) = 0) = decide (l = []) := by
  cases l with
  | nil => rfl
  | cons a r => simp; omega
theorem and4f (a b c d : Bool) (h : a = false ∨ b = false ∨ c = false ∨ d = false) : (a && b && c && d) = false := by
  rcases h with h | h | h | h <;> subst h <;> simp
set_option maxHeartbeats 16000000 in
theorem inode_any (y : Nq) (hy : NqR y w) (hw : NdW y.x) :
    Calls Tryz.prog 111 #[.agg (RNq.enc y).toArray] w fun e w' => e = .returned (.bool (ndB y.x)) ∧ Nw w w' := by
  obtain ⟨P, hP⟩ : ∃ P : Ending → World → Prop, P = fun e w' => e = .returned (.bool (ndB y.x)) ∧ Nw w w' := ⟨_, rfl⟩
  rw [← hP]
  have HF : Hid (∀ V b, Nw w V → ndB y.x = b → P (.returned (.bool b)) V) := fun V b hV hb => by rw [hP, ← hb]; exact ⟨rfl, hV⟩
  clear hP
  have hd := hy.dn
  have he := hy.en
  obtain ⟨V, hV⟩ : ∃ V, w.alloc (.cells (RNq.enc y).toArray 58) = V := ⟨_, rfl⟩
  have hN : Nw w V := by rw [← hV]; exact (Fr.refl _ _).alloc _
  have hyV := hy.nw hN
  obtain ⟨x, ⟨da, dn, dc⟩, ⟨ea, en, ec⟩⟩ := y
  simp only at hd he hw
  obtain ⟨hd1, hd2, hd3⟩ := hd
  obtain ⟨he1, he2, he3⟩ := he
  have HC : Hid (∀ W, Nw V W → ∀ j v, (RNq.enc ⟨x, ⟨da, dn, dc⟩, ⟨ea, en, ec⟩⟩)[j]? = some v → W.cell? ⟨w.heap.size, j, none⟩ = some v) := fun W hW j v hv => hW.cell (by rw [← hV]; exact (rc (nh w _) j v (by simpa using hv)).1)
  have hc := HC.out V (Fr.refl _ _)
  have HEN : Hid (∀ W, Nw V W → Calls Tryz.prog 131 #[.slice ea en ec] W fun e w' => e = .returned (.bool (entsG [] x.ents)) ∧ Hid (Nw V w')) := fun W hW => Calls.mono (entries_any x.ents ea en ec he1 (hyV.nw hW).2 hw.nl (by have := hw.el; omega)) (fun e w' h => ⟨h.1, hW.trans h.2⟩)
  have HTG : Hid (∀ W, Calls Tryz.prog 121 #[.string (mk x.tgt)] W fun e w' => e = .returned (.bool (tgOk x.tgt)) ∧ W = w') := fun W => isTarget_any x.tgt W hw.tl
  have HMT : Hid (∀ W, Nw V W → Calls Tryz.prog 104 #[.agg #[.int .u32 x.mt.mode, .int .u32 x.mt.uid, .int .u32 x.mt.gid, .int .i64 x.mt.time, .int .i32 x.mt.nano]] W fun e w' => e = .returned (.bool (mtOk x.mt)) ∧ Hid (Nw V w')) := fun W hW => Calls.mono (isMeta_any x.mt W) (fun e w' h => ⟨h.1, hW.trans h.2⟩)
  have c1 : V.cell? ⟨w.heap.size, 1, none⟩ = some (.int .i64 x.kind) := hc 1 _ rfl
  have c7 : V.cell? ⟨w.heap.size, 7, none⟩ = some (.slice da dn dc) := hc 7 _ rfl
  have c8 : V.cell? ⟨w.heap.size, 8, none⟩ = some (.string (mk x.tgt)) := hc 8 _ rfl
  have c9 : V.cell? ⟨w.heap.size, 9, none⟩ = some (.slice ea en ec) := hc 9 _ rfl
  have hdB : decide ((dn : Int) = 0) = decide (x.data = []) := by rw [hd1]; exact len0 _
  have heB : decide ((en : Int) = 0) = decide (x.ents = []) := by rw [he1]; exact len0 _
  have heB2 : ((en : Int) == 0) = decide (x.ents = []) := by rw [← heB]; rfl
  have hdB2 : ((dn : Int) == 0) = decide (x.data = []) := by rw [← hdB]; rfl
  have htB : ((mk x.tgt).toList == []) = decide (x.tgt = []) := mk_eqr x.tgt []
  have hdL : decide ((dn : Int) ≤ 4194304) = decide (x.data.length ≤ 4194304) := by rw [hd1]; congr 1; exact propext ⟨fun h => by omega, fun h => by omega⟩
  have HMC : Hid (∀ W, Nw V W → W.cell? ⟨w.heap.size, 2, none⟩ = some (.int .u32 x.mt.mode) ∧ W.cell? ⟨w.heap.size, 3, none⟩ = some (.int .u32 x.mt.uid) ∧ W.cell? ⟨w.heap.size, 4, none⟩ = some (.int .u32 x.mt.gid) ∧ W.cell? ⟨w.heap.size, 5, none⟩ = some (.int .i64 x.mt.time) ∧ W.cell? ⟨w.heap.size, 6, none⟩ = some (.int .i32 x.mt.nano)) := fun W hW => ⟨HC.out W hW 2 _ rfl, HC.out W hW 3 _ rfl, HC.out W hW 4 _ rfl, HC.out W hW 5 _ rfl, HC.out W hW 6 _ rfl⟩
  have HW := tHid hV
  have HNW := tHid hN
  have HK1 := @ndB_dir x
  have HK2 := @ndB_file x
  have HK3 := @ndB_link x
  have HK4 := @ndB_none x
  have HNB : Hid ((x.kind = 1 → ndB x = (decide (x.data = []) && decide (x.tgt = []) && entsG [] x.ents && mtOk x.mt)) ∧ (x.kind = 2 → ndB x = (decide (x.data.length ≤ 4194304) && decide (x.tgt = []) && decide (x.ents = []) && mtOk x.mt)) ∧ (x.kind = 3 → ndB x = (decide (x.data = []) && tgOk x.tgt && decide (x.ents = []) && mtOk x.mt)) ∧ (x.kind ≠ 1 → x.kind ≠ 2 → x.kind ≠ 3 → ndB x = false)) := ⟨HK1, HK2, HK3, HK4⟩
  clear hV hN hyV hy hc HC hw hd1 hd2 hd3 he1 he2 he3 HK1 HK2 HK3 HK4
  generalize decide (x.data = []) = D1 at *
  generalize decide (x.ents = []) = E1 at *
  generalize decide (x.tgt = []) = T1 at *
  generalize decide (x.data.length ≤ 4194304) = D2 at *
  generalize entsG [] x.ents = E2 at *
  generalize tgOk x.tgt = T2 at *
  generalize mtOk x.mt = M1 at *
  generalize ndB x = NB at *
  generalize x.kind = kd at *
  simp only [RNq]
  go_enter Tryz.func111, Tryz.ntmps111
  go_upto_region 1 with fail
  have hW2 := HW.out
  simp only [RNq] at hW2
  rw [hW2]
  clear hW2 HW
  go_cut [3, 4, 5] (fun a b c wx => a = .bool D1 ∧ b = .bool T1 ∧ c = .bool E1 ∧ Hid (Nw V wx))
  case first =>
    go_quiet (fail)
    go_wp2_with fail
    go_meet
    exact ⟨rfl, rfl, rfl, (Fr.refl _ _).drewN _⟩
  case rest =>
  obtain ⟨rfl, rfl, rfl, HX⟩ := hcut
  have c1 := HX.out.cell c1
  have c7 := HX.out.cell c7
  have c8 := HX.out.cell c8
  have c9 := HX.out.cell c9
  by_cases hk1 : kd = 1
  · subst hk1
    have hNB := HNB.out.1 rfl
    go_upto_region 10 with (first | (go_at_call 131; with_reducible refine (HEN.out _ HX.out).mono ?_; rintro e w4 ⟨rfl, H4⟩))
    obtain ⟨m2, m3, m4, m5, m6⟩ := HMC.out w4 H4.out
    have HM4 := tHid (HMT.out w4 H4.out)
    have HF4 : Hid (∀ b, NB = b → P (.returned (.bool b)) w4) := fun b hb => HF.out _ b (HNW.out.trans H4.out) hb
    have HF5 : Hid (∀ V2 b, Hid (Nw V V2) → NB = b → P (.returned (.bool b)) V2) := fun V2 b hV hb => HF.out _ b (HNW.out.trans hV.out) hb
    clear HF HMC HMT HEN HTG HNB HNW c1 c7 c8 c9
    rcases Bool.eq_false_or_eq_true D1 with hvD1 | hvD1
    rotate_left
    · subst hvD1
      have HL := tHid (HF4.out false (by rw [hNB]; simp))
      clear hNB HF4 HF5 HM4
      go_wp2_with fail
      exact HL.out
    subst hvD1
    rcases Bool.eq_false_or_eq_true T1 with hvT1 | hvT1
    rotate_left
    · subst hvT1
      have HL := tHid (HF4.out false (by rw [hNB]; simp))
      clear hNB HF4 HF5 HM4
      go_wp2_with fail
      exact HL.out
    subst hvT1
    rcases Bool.eq_false_or_eq_true E2 with hvE2 | hvE2
    rotate_left
    · subst hvE2
      have HL := tHid (HF4.out false (by rw [hNB]; simp))
      clear hNB HF4 HF5 HM4
      go_wp2_with fail
      exact HL.out
    subst hvE2
    have hNB2 := tHid (show NB = M1 by rw [hNB]; simp)
    clear hNB HF4
    go_wp2_with (first | (go_at_call 104; with_reducible refine HM4.out.mono ?_; rintro e w5 ⟨rfl, H5⟩))
    exact HF5.out _ _ H5 hNB2.out
  · by_cases hk2 : kd = 2
    · subst hk2
      have hNB := HNB.out.2.1 rfl
      go_upto_region 10 with fail
      obtain ⟨m2, m3, m4, m5, m6⟩ := HMC.out wc HX.out
      have HM4 := tHid (HMT.out wc HX.out)
      have HF4 : Hid (∀ b, NB = b → P (.returned (.bool b)) wc) := fun b hb => HF.out _ b (HNW.out.trans HX.out) hb
      have HF5 : Hid (∀ V2 b, Hid (Nw V V2) → NB = b → P (.returned (.bool b)) V2) := fun V2 b hV hb => HF.out _ b (HNW.out.trans hV.out) hb
      clear HF HMC HMT HEN HTG HNB HNW c1 c7 c8 c9
      rcases Bool.eq_false_or_eq_true D2 with hvD2 | hvD2
      rotate_left
      · subst hvD2
        have HL := tHid (HF4.out false (by rw [hNB]; simp))
        clear hNB HF4 HF5 HM4
        go_wp2_with fail
        exact HL.out
      subst hvD2
      rcases Bool.eq_false_or_eq_true T1 with hvT1 | hvT1
      rotate_left
      · subst hvT1
        have HL := tHid (HF4.out false (by rw [hNB]; simp))
        clear hNB HF4 HF5 HM4
        go_wp2_with fail
        exact HL.out
      subst hvT1
      rcases Bool.eq_false_or_eq_true E1 with hvE1 | hvE1
      rotate_left
      · subst hvE1
        have HL := tHid (HF4.out false (by rw [hNB]; simp))
        clear hNB HF4 HF5 HM4
        go_wp2_with fail
        exact HL.out
      subst hvE1
      have hNB2 := tHid (show NB = M1 by rw [hNB]; simp)
      clear hNB HF4
      go_wp2_with (first | (go_at_call 104; with_reducible refine HM4.out.mono ?_; rintro e w5 ⟨rfl, H5⟩))
      exact HF5.out _ _ H5 hNB2.out
    · by_cases hk3 : kd = 3
      · subst hk3
        have hNB := HNB.out.2.2.1 rfl
        go_upto_region 10 with (first | (go_at_call 121; with_reducible refine (HTG.out _).mono ?_; rintro e w4 ⟨rfl, rfl⟩))
        obtain ⟨m2, m3, m4, m5, m6⟩ := HMC.out wc HX.out
        have HM4 := tHid (HMT.out wc HX.out)
        have HF4 : Hid (∀ b, NB = b → P (.returned (.bool b)) wc) := fun b hb => HF.out _ b (HNW.out.trans HX.out) hb
        have HF5 : Hid (∀ V2 b, Hid (Nw V V2) → NB = b → P (.returned (.bool b)) V2) := fun V2 b hV hb => HF.out _ b (HNW.out.trans hV.out) hb
        clear HF HMC HMT HEN HTG HNB HNW c1 c7 c8 c9
        rcases Bool.eq_false_or_eq_true D1 with hvD1 | hvD1
        rotate_left
        · subst hvD1
          have HL := tHid (HF4.out false (by rw [hNB]; simp))
          clear hNB HF4 HF5 HM4
          go_wp2_with fail
          exact HL.out
        subst hvD1
        rcases Bool.eq_false_or_eq_true T2 with hvT2 | hvT2
        rotate_left
        · subst hvT2
          have HL := tHid (HF4.out false (by rw [hNB]; simp))
          clear hNB HF4 HF5 HM4
          go_wp2_with fail
          exact HL.out
        subst hvT2
        rcases Bool.eq_false_or_eq_true E1 with hvE1 | hvE1
        rotate_left
        · subst hvE1
          have HL := tHid (HF4.out false (by rw [hNB]; simp))
          clear hNB HF4 HF5 HM4
          go_wp2_with fail
          exact HL.out
        subst hvE1
        have hNB2 := tHid (show NB = M1 by rw [hNB]; simp)
        clear hNB HF4
        go_wp2_with (first | (go_at_call 104; with_reducible refine HM4.out.mono ?_; rintro e w5 ⟨rfl, H5⟩))
        exact HF5.out _ _ H5 hNB2.out
      · have HL := tHid (HF.out wc false (HNW.out.trans HX.out) (HNB.out.2.2.2 hk1 hk2 hk3))
        clear HF HMC HMT HEN HTG HNB HNW c7 c8 c9
        go_wp2_with fail
        exact HL.out
end Go.Proofs.YtcogkhcfpgelhaaGreat

namespace Go.Proofs.YtcogkhcfpgelhaaGreat
open Go.RowKit
set_option linter.unusedVariables false
set_option maxRecDepth 100000
variable {w w' : World} {X : Nat → Prop}
theorem inoG_drop {l : List Nd} {I : Nat} {x : Nd} (h : l[I]? = some x) (next last : Int) : inoG next last (l.drop I) = (decide (last < x.num) && decide (x.num < next) && ndB x && inoG next x.num (l.drop (I + 1))) := by
  obtain ⟨hI, rfl⟩ := List.getElem?_eq_some_iff.1 h
  rw [List.drop_eq_getElem_cons hI]; rfl
theorem held_take {l : List Nd} {I : Nat} {x : Nd} (h : l[I]? = some x) : heldF (l.take (I + 1)) = heldF (l.take I) + x.data.length := by
  unfold heldF
  rw [List.take_add_one, h, List.map_append, List.sum_append]
  simp
/-- Ten cells of an inode in an image, at a block. -/
def NqC (g o : Nat) (y : Nq) (w : World) : Prop := w.cell? ⟨g, o, none⟩ = some (.int .i64 y.x.num) ∧ w.cell? ⟨g, o + 1, none⟩ = some (.int .i64 y.x.kind) ∧ w.cell? ⟨g, o + 2, none⟩ = some (.int .u32 y.x.mt.mode) ∧ w.cell? ⟨g, o + 3, none⟩ = some (.int .u32 y.x.mt.uid) ∧ w.cell? ⟨g, o + 4, none⟩ = some (.int .u32 y.x.mt.gid) ∧ w.cell? ⟨g, o + 5, none⟩ = some (.int .i64 y.x.mt.time) ∧ w.cell? ⟨g, o + 6, none⟩ = some (.int .i32 y.x.mt.nano) ∧ w.cell? ⟨g, o + 7, none⟩ = some (.slice y.d.a y.d.n y.d.c) ∧ w.cell? ⟨g, o + 8, none⟩ = some (.string (mk y.x.tgt)) ∧ w.cell? ⟨g, o + 9, none⟩ = some (.slice y.e.a y.e.n y.e.c)
theorem ImR.at {a : Option Addr} {n c : Nat} {l : List Nq} (h : ImR (.slice a n c) l w) (I : Nat) (hI : I < l.length) : ∃ g o, a = some ⟨g, o, none⟩ ∧ NqC g (o + I * 10) l[I] w := by
  obtain ⟨g, o, e, _, hc⟩ := h.1.at I (l[I]) (List.getElem?_eq_getElem hI)
  exact ⟨g, o, e, hc 0 _ rfl, hc 1 _ rfl, hc 2 _ rfl, hc 3 _ rfl, hc 4 _ rfl, hc 5 _ rfl, hc 6 _ rfl, hc 7 _ rfl, hc 8 _ rfl, hc 9 _ rfl⟩
/-- The same ten cells, alone in a block that was made of them. -/
abbrev nqC (y : Nq) : Array Value := #[.int .i64 y.x.num, .int .i64 y.x.kind, .int .u32 y.x.mt.mode, .int .u32 y.x.mt.uid, .int .u32 y.x.mt.gid, .int .i64 y.x.mt.time, .int .i32 y.x.mt.nano, .slice y.d.a y.d.n y.d.c, .string (mk y.x.tgt), .slice y.e.a y.e.n y.e.c]
theorem NqC.made (w : World) (y : Nq) : NqC w.heap.size 0 y (w.alloc (.cells (nqC y) 58)) := ⟨(rc (nh w _) 0 _ rfl).1, (rc (nh w _) 1 _ rfl).1, (rc (nh w _) 2 _ rfl).1, (rc (nh w _) 3 _ rfl).1, (rc (nh w _) 4 _ rfl).1, (rc (nh w _) 5 _ rfl).1, (rc (nh w _) 6 _ rfl).1, (rc (nh w _) 7 _ rfl).1, (rc (nh w _) 8 _ rfl).1, (rc (nh w _) 9 _ rfl).1⟩
theorem NqC.nw {g o : Nat} {y : Nq} (h : NqC g o y w) (f : Nw w w') : NqC g o y w' := by
  obtain ⟨a, b, c, d, e, f1, g1, h1, i, j⟩ := h
  exact ⟨f.cell a, f.cell b, f.cell c, f.cell d, f.cell e, f.cell f1, f.cell g1, f.cell h1, f.cell i, f.cell j⟩
abbrev imV (X : Im) (v : Value) : Value := .agg #[.int .i64 X.nodes, .int .i64 X.bytes, .int .i64 X.next, v]
set_option maxHeartbeats 16000000 in
theorem inodes_any (X : Im) (l : List Nq) (a : Option Addr) (n c : Nat) (hl : l.map Nq.x = X.l) (hn : n = l.length) (h1 : 1 ≤ n) (h2 : n ≤ 4096) (hm : ImR (.slice a n c) l w) (hw : ∀ y ∈ l, NdW y.x) :
    Calls Tryz.prog 71 #[imV X (.slice a n c)] w fun e w' => e = .returned (.bool (inodB X)) ∧ Nw w w' := by
  obtain ⟨P, hP⟩ : ∃ P : Ending → World → Prop, P = fun e w' => e = .returned (.bool (inodB X)) ∧ Nw w w' := ⟨_, rfl⟩
  rw [← hP]
  have HF : Hid (∀ V b, Nw w V → inodB X = b → P (.returned (.bool b)) V) := fun V b hV hb => by rw [hP, ← hb]; exact ⟨rfl, hV⟩
  clear hP
  have hlen : X.l.length = n := by rw [← hl, List.length_map, hn]
  have hget : ∀ I, X.l[I]? = (l[I]?).map Nq.x := fun I => by rw [← hl, List.getElem?_map]
  obtain ⟨V, hV⟩ : ∃ V, w.alloc (.cells #[.int .i64 X.nodes, .int .i64 X.bytes, .int .i64 X.next, .slice a n c] 37) = V := ⟨_, rfl⟩
  have hN : Nw w V := by rw [← hV]; exact (Fr.refl _ _).alloc _
  have HI : Hid (∀ W, Nw V W → W.cell? ⟨w.heap.size, 1, none⟩ = some (.int .i64 X.bytes) ∧ W.cell? ⟨w.heap.size, 2, none⟩ = some (.int .i64 X.next) ∧ W.cell? ⟨w.heap.size, 3, none⟩ = some (.slice a n c)) := fun W hW => ⟨hW.cell (by rw [← hV]; exact (rc (nh w _) 1 _ rfl).1), hW.cell (by rw [← hV]; exact (rc (nh w _) 2 _ rfl).1), hW.cell (by rw [← hV]; exact (rc (nh w _) 3 _ rfl).1)⟩
  have HM : Hid (∀ W, Nw V W → ImR (.slice a n c) l W) := fun W hW => (hm.nw hN).nw hW
  obtain ⟨i1, i2, i3⟩ := HI.out V (Fr.refl _ _)
  have hI0 : 0 < l.length := by omega
  obtain ⟨g, o, rfl, hc0⟩ := (HM.out V (Fr.refl _ _)).at 0 hI0
  have hc0' : NqC g o l[0] V := by have := hc0; rw [Nat.zero_mul, Nat.add_zero] at this; exact this
  obtain ⟨y0, hy0⟩ : ∃ y0, l[0] = y0 := ⟨_, rfl⟩
  rw [hy0] at hc0'
  obtain ⟨c0, c1, c2, c3, c4, c5, c6, c7, c8, c9⟩ := hc0'
  obtain ⟨V2, hV2⟩ : ∃ V2, V.alloc (.cells (nqC y0) 58) = V2 := ⟨_, rfl⟩
  have hN2 : Nw V V2 := by rw [← hV2]; exact (Fr.refl _ _).alloc _
  have hd := NqC.made V y0
  rw [hV2] at hd
  have z0 := hd.1
  have z1 : V2.cell? ⟨V.heap.size, 1, none⟩ = some (.int .i64 y0.x.kind) := hd.2.1
  have HRT : Hid (rtB X.l = (decide (y0.x.num = 1) && decide (y0.x.kind = 1))) := by
    have h3 := hget 0
    rw [List.getElem?_eq_getElem hI0, hy0] at h3
    show rtB X.l = _
    cases hx : X.l with
    | nil => rw [hx] at hlen; simp at hlen; omega
    | cons r t =>
      have : r = y0.x := by rw [hx] at h3; simpa using h3
      unfold rtB
      rw [this]
  have HLN := tHid hlen
  have HGT := tHid hget
  have HNN := tHid hn
  have HWW := tHid hw
  have HV := tHid hV
  have HV2 := tHid hV2
  have HN := tHid hN
  have HN2 := tHid hN2
  have HB1 := tHid h1
  have HB2 := tHid h2
  clear hlen hget hn hw hV hV2 hN hN2 hl hm hc0 hd hy0 hI0 h1 h2
  obtain ⟨j1, j2, j3⟩ := HI.out V2 HN2.out
  have hq : (y0.x.num = 1 ∧ y0.x.kind = 1) ∨ (rtB X.l = false ∧ ((y0.x.num = 1 ∧ y0.x.kind ≠ 1) ∨ y0.x.num ≠ 1)) := by
    by_cases e1 : y0.x.num = 1
    · by_cases e2 : y0.x.kind = 1
      · exact .inl ⟨e1, e2⟩
      · exact .inr ⟨by rw [HRT.out, decide_eq_false e2]; simp, .inl ⟨e1, e2⟩⟩
    · exact .inr ⟨by rw [HRT.out, decide_eq_false e1]; simp, .inr e1⟩
  have HQ := tHid hq
  clear hq
  have e00 : (0 : Int) < (n : Int) := by have := HB1.out; omega
  unfold nqC at HV2
  go_enter Tryz.func71, Tryz.ntmps71
  go_upto_region 1 with fail
  rw [HV.out]
  clear HV
  go_upto_region 2 with fail
  rw [HV2.out]
  clear HV2 c0 c1 c2 c3 c4 c5 c6 c7 c8 c9 i1 i2 i3
  rcases HQ.out with ⟨hn0, hk0⟩ | ⟨hf, hq⟩
  rotate_left
  · have HL := tHid (HF.out V2 false (HN.out.trans HN2.out) (by unfold inodB; rw [hf]; rfl))
    clear HQ HF HRT HGT HWW HM HI hf HN HN2 j1 j2 j3 HLN HNN HB1 HB2
    rcases hq with ⟨hn0, hk⟩ | hk
    · go_wp2_with fail
      exact HL.out
    · go_wp2_with fail
      exact HL.out
  have HRT2 : Hid (rtB X.l = true) := by show rtB X.l = true; rw [HRT.out, hn0, hk0]; rfl
  clear HQ HRT
  go_wp2_with fail
  clear j1 j2 j3 z0 z1 hn0 hk0
  go_loopg [4, 5, 23] n (fun kx s4 s5 i wr => ∃ (I H : Nat) (last : Int), I ≤ n ∧ n - I ≤ kx ∧ s4 = .int .i64 last ∧ s5 = .int .i64 H ∧ i = .int .i64 I ∧ Hid (Nw V wr ∧ inoG X.next 0 X.l = inoG X.next last (X.l.drop I) ∧ H = heldF (X.l.take I) ∧ H ≤ I * 4194304))
  case atStart => exact ⟨0, 0, 0, by omega, by omega, rfl, rfl, rfl, HN2.out, rfl, rfl, by omega⟩
  case round =>
    obtain ⟨I, H, last, hI, hkx, rfl, rfl, rfl, HR⟩ := hrel
    by_cases hlt : I < n
    · have hIl : I < l.length := by rw [← HNN.out]; exact hlt
      obtain ⟨g', o', e', hc⟩ := (HM.out wr HR.out.1).at I hIl
      injection e' with e'
      injection e' with e1 e2
      subst e1 e2
      obtain ⟨y, hy⟩ : ∃ y, l[I] = y := ⟨_, rfl⟩
      rw [hy] at hc
      obtain ⟨c0, c1, c2, c3, c4, c5, c6, c7, c8, c9⟩ := hc
      have hxI : X.l[I]? = some y.x := by rw [HGT.out I, List.getElem?_eq_getElem hIl, hy]; rfl
      have hmy : y ∈ l := by rw [← hy]; exact List.getElem_mem hIl
      have hst := inoG_drop hxI X.next last
      have hht := held_take hxI
      have hwy := HWW.out y hmy
      have hry : NqR y wr := (HM.out wr HR.out.1).2 y hmy
      obtain ⟨V3, hV3⟩ : ∃ V3, wr.alloc (.cells (nqC y) 58) = V3 := ⟨_, rfl⟩
      have hN3 : Nw wr V3 := by rw [← hV3]; exact (Fr.refl _ _).alloc _
      have hd := NqC.made wr y
      rw [hV3] at hd
      have HD := tHid hd
      have HIN : Hid (Calls Tryz.prog 111 #[.agg (nqC y)] V3 fun e w' => e = .returned (.bool (ndB y.x)) ∧ Hid (Nw V3 w')) := Calls.mono (inode_any y (hry.nw hN3) hwy) (fun e w' h => ⟨h.1, h.2⟩)
      have HR2 : Hid (Nw V V3 ∧ inoG X.next 0 X.l = (decide (last < y.x.num) && decide (y.x.num < X.next) && ndB y.x && inoG X.next y.x.num (X.l.drop (I + 1))) ∧ H + y.x.data.length = heldF (X.l.take (I + 1)) ∧ H ≤ I * 4194304 ∧ y.d.n = y.x.data.length ∧ (ndB y.x = true → y.x.data.length ≤ 4194304)) := ⟨HR.out.1.trans hN3, by rw [HR.out.2.1, hst], by rw [hht, HR.out.2.2.1], HR.out.2.2.2, hry.dn.1, fun h => ((ndB_iff _).1 h).1.len⟩
      obtain ⟨j1, j2, j3⟩ := HI.out V3 HR2.out.1
      obtain ⟨z0, z1, z2, z3, z4, z5, z6, z7, z8, z9⟩ := hd
      simp only [Nat.zero_add] at z1 z2 z3 z4 z5 z6 z7 z8 z9
      have hlt2 : (I : Int) < (n : Int) := by omega
      have hltd := decide_eq_true hlt2
      have hltn := decide_eq_true hlt
      have zwj : IntKind.i64.wrap ((I : Int) + 1) = (I : Int) + 1 := by rw [IntKind.wrap_i64]; have := HB2.out; omega
      have HFF : Hid (∀ W, Nw V3 W → inoG X.next 0 X.l = false → P (.returned (.bool false)) W) := fun W hW hb => HF.out W false (HN.out.trans (HR2.out.1.trans hW)) (by unfold inodB; rw [hb]; simp)
      have HV3 := tHid hV3
      unfold nqC at HV3
      have HI3 : Hid (∀ W, Nw V3 W → NqC wr.heap.size 0 y W) := fun W hW => HD.out.nw hW
      clear hIl hy hmy hst hht hwy hry hV3 hN3 hxI HR HM HI HGT HWW HF HN2 HD
      go_upto_region 8 with fail
      rw [HV3.out]
      clear HV3 c0 c1 c2 c3 c4 c5 c6 c7 c8 c9
      by_cases hA : y.x.num ≤ last
      · have HL := tHid (HFF.out V3 (Fr.refl _ _) (by rw [HR2.out.2.1, decide_eq_false (by omega)]; rfl))
        have hAd := decide_eq_true hA
        clear HFF HR2 HIN HI3 zwj
        go_wp2_with fail
        exact HL.out
      · have hAd := decide_eq_false hA
        by_cases hB : X.next ≤ y.x.num
        · have HL := tHid (HFF.out V3 (Fr.refl _ _) (by rw [HR2.out.2.1, decide_eq_false (show ¬ y.x.num < X.next by omega)]; simp))
          have hBd := decide_eq_true hB
          clear HFF HR2 HIN HI3 zwj
          go_wp2_with fail
          exact HL.out
        · have hBd := decide_eq_false hB
          rcases Bool.eq_false_or_eq_true (ndB y.x) with hC | hC
          · rw [hC] at HIN
            obtain ⟨q1, q2, q3, q4, q5, q6⟩ := HR2.out
            have q6 := q6 hC
            have hsum : (H : Int) + (y.d.n : Int) = ((H + y.x.data.length : Nat) : Int) := by omega
            obtain ⟨H2, hH2⟩ : ∃ H2 : Nat, H2 = H + y.x.data.length := ⟨_, rfl⟩
            rw [← hH2] at hsum q3
            have hsw : IntKind.i64.wrap ((H : Int) + (y.d.n : Int)) = (H2 : Int) := by
              have := HB2.out
              have hm1 : I * 4194304 ≤ 4096 * 4194304 := Nat.mul_le_mul_right _ (by omega)
              rw [IntKind.wrap_i64]; omega
            have HNX : Hid (∀ W, Nw V3 W → Nw V W ∧ inoG X.next 0 X.l = inoG X.next y.x.num (X.l.drop (I + 1)) ∧ H2 = heldF (X.l.take (I + 1)) ∧ H2 ≤ (I + 1) * 4194304) := fun W hW => ⟨q1.trans hW, by rw [q2, hC, decide_eq_true (show last < y.x.num by omega), decide_eq_true (show y.x.num < X.next by omega)]; rfl, q3, by omega⟩
            clear HR2 HFF q1 q2 q3 q4 q5 q6 hsum hH2 hC
            go_upto_region 10 with (first | (go_at_call 111; with_reducible refine HIN.out.mono ?_; rintro e w4 ⟨rfl, H4⟩))
            obtain ⟨x0, _, _, _, _, _, _, x7, _, _⟩ := HI3.out w4 H4.out
            have HNX4 := tHid (HNX.out w4 H4.out)
            clear HNX HI3 HIN z0 z1 z2 z3 z4 z5 z6 z7 z8 z9 j1 j2 j3
            go_wp2_with fail
            go_roundg (n - (I + 1))
            case measure => omega
            case rel => exact ⟨I + 1, H2, y.x.num, by omega, by omega, rfl, by first | rfl | (congr 1), by first | rfl | (congr 1), HNX4⟩
          · rw [hC] at HIN
            have HL := tHid (fun W hW => HFF.out W hW (by rw [HR2.out.2.1, hC]; simp))
            clear HFF HR2 HI3 zwj hC
            go_wp2_with (first | (go_at_call 111; with_reducible refine HIN.out.mono ?_; rintro e w4 ⟨rfl, H4⟩))
            exact HL.out _ H4.out
    · have hIe : I = n := by omega
      have hlt2 : ¬ (I : Int) < (n : Int) := by omega
      have hltd := decide_eq_false hlt2
      have hltn := decide_eq_false hlt
      obtain ⟨q1, q2, q3, q4⟩ := HR.out
      obtain ⟨i1, i2, i3⟩ := HI.out wr q1
      have hall : inodB X = decide ((H : Int) ≤ X.bytes) := by
        unfold inodB
        rw [HRT2.out, q2, hIe, ← HLN.out, List.drop_length]
        rw [hIe, ← HLN.out, List.take_length] at q3
        rw [q3]; simp [inoG]
      have HL := tHid (HF.out wr _ (HN.out.trans q1) hall)
      clear HR HF HM HI HGT HWW HN2 HRT2 q1 q2 q3 q4 hall HN hIe HLN HNN HB1 HB2
      go_wp2_with fail
      exact HL.out
end Go.Proofs.YtcogkhcfpgelhaaGreat
