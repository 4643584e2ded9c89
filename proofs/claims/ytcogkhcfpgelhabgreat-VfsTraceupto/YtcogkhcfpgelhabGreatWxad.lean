import Derived.Test.YtcogkhcfpgelhabGreatWxab
import Derived.Test.YtcogkhcfpgelhabGreatWxac
import Derived.Test.YtcogkhcfpgelhabGreatVfY
import Derived.Test.YtcogkhcfpgelhabGreatVgC
namespace Go.Proofs.YtcogkhcfpgelhabGreat
open Go.RowKit
set_option linter.unusedVariables false
set_option maxRecDepth 100000
variable {fb mb : Nat} {ot : Option Nat} {L : Int → Lay} {h : Hx} {q : Int → Option Pn} {cnt : Nat} {T : List Ac} {w w' : World} {X : Nat → Prop}
/-! ### Rows of entries -/
def RNm : RT (Tx × Int) := { enc := fun x => [.string (mk x.1), .int .i64 x.2], k := 2, T := 57, TS := 42, z := ([], 0), by_ := 24 }
theorem rnmOk : RNm.Ok := by
  refine ⟨fun _ => rfl, by decide, fun x v hv => ?_, Tryz.underlying42, ?_⟩
  · simp only [RNm, List.mem_cons, List.mem_nil_iff, or_false] at hv
    rcases hv with rfl | rfl <;> rfl
  · have h : (Tryz.prog.info? 57).map (fun i => (i.zero, i.size, i.bytes)) = some (some (.agg #[.string ⟨#[]⟩, .int .i64 0]), 2, 24) := by kernel_rfl
    cases hq : Tryz.prog.info? 57 with
    | none => simp [hq] at h
    | some i => simp [hq] at h; exact ⟨i, _, hq, h.1, h.2.1, h.2.2, rfl⟩
theorem nm_push {og : Option Nat} {a : Option Addr} {c : Nat} {l : List (Tx × Int)} (hO : OgR RNm og (.slice a l.length c) l w) (hl : l.length ≤ 1000000000) (x : Tx × Int) :
    ∃ a' c' og' W, (∀ ty, (appV #[42, 42] ty #[.slice a l.length c, .slice (some ⟨w.heap.size, 0, none⟩) 1 1]).run Tryz.prog (w.alloc (.cells #[.string (mk x.1), .int .i64 x.2] 57)) = .ok (.slice a' (l.length + 1) c') W) ∧ OgR RNm og' (.slice a' (l.length + 1) c') (l ++ [x]) W ∧ Fr (fun k => og = some k) w W ∧ Went og og' w := by
  have hN : Nw w (w.alloc (.cells (RNm.enc x).toArray 57)) := (Fr.refl _ _).alloc _
  have hb := OwR.built rnmOk w [x] (RNm.enc x).toArray (by simp [flatR]) (by simp)
  obtain ⟨v', og', W, k1, k2, k3, k4⟩ := ogR_app rnmOk _ og _ l (hO.nw hN) (.slice (some ⟨w.heap.size, 0, none⟩) 1 1) [x] ((hb.slr rnmOk).mono (fun _ h => h.elim)) (by simp only [RNm, List.length_singleton]; omega) (by simp only [List.length_singleton]; omega)
  obtain ⟨a', c', e2, q1, q2⟩ := k2.form
  rw [List.length_append, List.length_singleton] at e2 q1
  subst e2
  refine ⟨a', c', og', W, k1, k2, hN.any.trans k3, ?_⟩
  rcases k4 with e | ⟨g, e, hg⟩
  · exact .inl e
  · have hs := hN.size
    exact .inr ⟨g, e, by omega⟩
theorem key_uniq {m : List (Tx × Int)} (hm : m.Pairwise (fun x y => lt x.1 y.1 = true)) {x y : Tx × Int} (hx : x ∈ m) (hy : y ∈ m) (e : x.1 = y.1) : x = y := by
  induction m with
  | nil => cases hx
  | cons z r ih =>
    obtain ⟨h1, h2⟩ := List.pairwise_cons.1 hm
    rcases List.mem_cons.1 hx with e1 | hx1
    · rcases List.mem_cons.1 hy with e2 | hy1
      · rw [e1, e2]
      · have := h1 y hy1
        rw [← e1, ← e, lt_irrefl] at this; cases this
    · rcases List.mem_cons.1 hy with e2 | hy1
      · have := h1 x hx1
        rw [← e2, e, lt_irrefl] at this; cases this
      · exact ih h2 hx1 hy1
/-- Sorted in one way alone. -/
theorem srt_one {l m : List (Tx × Int)} (hp : l.Perm m) (hl : l.Pairwise (fun x y => lt y.1 x.1 = false)) (hm : m.Pairwise (fun x y => lt x.1 y.1 = true)) : l = m := by
  have hm2 : m.Pairwise (fun x y => lt y.1 x.1 = false) := hm.imp (fun {x y} h => lt_asymm h)
  refine List.Perm.eq_of_pairwise (le := fun x y => lt y.1 x.1 = false) (fun x y hx hy h1 h2 => ?_) hl hm2 hp
  have hx' := hp.mem_iff.1 hx
  refine key_uniq hm hx' hy ?_
  rcases lt_tri x.1 y.1 with e | e | e
  · rw [e] at h2; cases h2
  · exact e
  · rw [e] at h1; cases h1
/-- What slices.SortFunc does with entries. -/
def SortC : Prop := ∀ (W : World) (og : Option Nat) (a : Option Addr) (c : Nat) (l : List (Tx × Int)), OgR RNm og (.slice a l.length c) l W → l.length ≤ 1000000000 → Calls Tryz.prog 67 #[.slice a l.length c, .func (.func 68) #[] #[]] W fun e w' => e = .returned (.tuple #[]) ∧ ∃ l', l'.Perm l ∧ l'.Pairwise (fun x y => lt y.1 x.1 = false) ∧ OgR RNm og (.slice a l.length c) l' w' ∧ Fr (fun k => og = some k) W w'
/-- How list's loop stands. -/
def LsI (w : World) (eb r n : Nat) (es done : List (Tx × Int)) (a : Option Addr) (c : Nat) (wr : World) : Prop := ∃ og, OgR RNm og (.slice a done.length c) done wr ∧ Gt ME eb r n es done wr ∧ Nw w wr ∧ w.heap.size ≤ r ∧ (∀ g, og = some g → w.heap.size ≤ g ∧ g ≠ r)
/-- What list answers. -/
def LstO (w : World) (es : List (Tx × Int)) (e : Ending) (w' : World) : Prop := ∃ og a c, e = .returned (.slice a es.length c) ∧ OgR RNm og (.slice a es.length c) es w' ∧ Nw w w' ∧ ∀ g, og = some g → w.heap.size ≤ g
section
attribute [local go_sem ↓] appV_fold
set_option maxHeartbeats 8000000 in
theorem list_dir (hS : SortC) (H : FsH fb mb ot L h q cnt T w) {d : Int} {p : Pn} (hq : q d = some p) (hk : p.kind = 1) (es : List (Tx × Int)) (hE : Ents ME p.ents p.ne es) (hs : es.Pairwise (fun x y => lt x.1 y.1 = true)) (hn : p.ne ≤ 1000000) :
    Calls Tryz.prog 41 #[.pointer (some ⟨(L d).ib, 0, none⟩)] w (LstO w es) := by
  obtain ⟨P, hP⟩ : ∃ P : Ending → World → Prop, P = LstO w es := ⟨_, rfl⟩
  rw [← hP]
  obtain ⟨dv, ev, k1, k2, k3, k4⟩ := (H.nd d p hq).blk
  have x8 := (ndc_of k1).c8
  rw [(k3 hk).1] at x8
  obtain ⟨W0, hrg, hG0, hN0⟩ := (k3 hk).2.range meOk hE
  have hrg' : (Instr.range 89 (.map (some (L d).eb))).run Tryz.prog w = .ok (.pointer (some ⟨w.heap.size, 0, none⟩)) W0 := hrg
  have HI0 : Hid (LsI w (L d).eb w.heap.size p.ne es [] none 0 W0) := ⟨none, ⟨rfl, rfl⟩, hG0, hN0, Nat.le_refl _, fun g hg => by cases hg⟩
  have HEN := tHid hE
  have HSR := tHid hs
  have HSC := tHid hS
  have HEB := tHid (k3 hk).2.lt
  have HPE := tHid hP
  clear hrg hG0 hN0 H k1 k2 k3 k4 hE hs hS hP hk hq
  generalize (L d).ib = ib at *
  generalize (L d).eb = eb at *
  generalize p.ents = pe at *
  generalize p.ne = n at *
  obtain ⟨r, hr⟩ : ∃ r, r = w.heap.size := ⟨_, rfl⟩
  rw [← hr] at hrg' HI0
  clear hr
  go_enter Tryz.func41, Tryz.ntmps41
  go_wp2_with fail
  go_loopg [3, 4, 5] n (fun kx v x4 x5 wr => ∃ (done : List (Tx × Int)) (a : Option Addr) (c N : Nat), v = .slice a N c ∧ n - N ≤ kx ∧ Hid (N = done.length ∧ LsI w eb r n es done a c wr))
  case atStart => exact ⟨[], none, 0, 0, rfl, by omega, rfl, HI0.out⟩
  case round =>
    obtain ⟨done, a, c, N, rfl, hkx, HI⟩ := hrel
    obtain ⟨hNd, og, hO, hG, hNw, hr, hog⟩ := HI.out
    have hebl := HEB.out
    rcases hG.next meOk with ⟨hnx, hall⟩ | ⟨x, W, hx, hxd, hnx, hen, hG2, hF2⟩
    · have hperm : done.Perm es := by
        obtain ⟨D, left, cnt, g1, g2, g3, g4, g5, g6, g7, g8⟩ := hG
        exact (List.perm_ext_iff_of_nodup g8 (List.nodup_iff_pairwise_ne.2 (HSR.out.imp (fun {x y} h e => by rw [e, lt_irrefl] at h; cases h)))).2 (fun x => ⟨g7 x, hall x⟩)
      have hl : done.length = es.length := hperm.length_eq
      have HC : Hid (Calls Tryz.prog 67 #[.slice a N c, .func (.func 68) #[] #[]] wr fun e w' => e = .returned (.tuple #[]) ∧ Hid (P (.returned (.slice a N c)) w')) := by
        rw [hNd]
        refine Calls.mono (HSC.out wr og a c done hO (by have := HEN.out.len; omega)) ?_
        rintro e w5 ⟨rfl, l', p1, p2, p3, p4⟩
        refine ⟨rfl, ?_⟩
        show P _ _
        rw [HPE.out]
        have e1 : l' = es := srt_one (p1.trans hperm) p2 HSR.out
        rw [e1] at p3
        exact ⟨og, a, c, by rw [hl], by rw [← hl]; exact p3, hNw.then p4 (fun i hi => .inr (hog i hi).1), fun g hg => (hog g hg).1⟩
      clear HI hO hG hNw hog hall hperm hl hNd HEN HSR HSC HPE HEB hebl hrg' HI0
      go_wp2_with (first | (go_at_call 67; with_reducible refine HC.out.mono ?_; rintro e w5 ⟨rfl, HF⟩))
      exact HF.out
    · have hnx' : ∀ ty, (Instr.next (.pointer (some ⟨r, 0, none⟩)) false ty).run Tryz.prog wr = .ok (.tuple #[.bool true, .string (mk x.1), .int .i64 x.2]) W := hnx
      have hen' : (Instr.entry (.pointer (some ⟨r, 0, none⟩))).run Tryz.prog W = .ok (.tuple #[.string (mk x.1), .int .i64 x.2]) W := hen
      have hO2 : OgR RNm og (.slice a done.length c) done W := hO.kept hF2 (fun g hg e => (hog g hg).2 e)
      have hN1 : N + 1 ≤ n := by
        obtain ⟨D, left, cnt, g1, g2, _⟩ := hG2
        rw [List.length_append, List.length_singleton] at g2
        omega
      obtain ⟨a', c', og', W2, q1, q2, q3, q4⟩ := nm_push hO2 (by omega) x
      rw [← hNd] at q1
      have HR : Hid (N + 1 = (done ++ [x]).length ∧ LsI w eb r n es (done ++ [x]) a' c' W2) := by
        have hNW : Nw w W := hNw.then hF2 (fun i hi => .inr (by omega))
        have hsW := hNW.size
        refine ⟨by rw [List.length_append, List.length_singleton, hNd], og', by rw [List.length_append, List.length_singleton]; exact q2, hG2.kept q3 (fun e => ?_) (fun e => (hog r e).2 rfl), hNW.then q3 (fun i hi => .inr (hog i hi).1), hr, fun g hg => ?_⟩
        · have := (hog eb e).1; omega
        · rcases q4 with e | ⟨g', e, hg'⟩
          · rw [e] at hg; exact hog g hg
          · rw [e] at hg
            injection hg with hg
            have := hG2.lt.1
            exact ⟨by omega, by omega⟩
      clear HI hO hO2 hG hG2 hNw hog hnx hen hx hxd hF2 q2 q3 q4 hNd HEN HSR HSC HPE HEB hebl hrg' HI0
      generalize mk x.1 = sx at *
      generalize x.2 = ix at *
      go_wp2_with fail
      go_roundg (n - (N + 1))
      case measure => omega
      case rel => exact ⟨done ++ [x], a', c', N + 1, rfl, by omega, HR.out⟩
set_option maxHeartbeats 8000000 in
theorem list_other (hS : SortC) (H : FsH fb mb ot L h q cnt T w) {d : Int} {p : Pn} (hq : q d = some p) (hk : p.kind ≠ 1) : Calls Tryz.prog 41 #[.pointer (some ⟨(L d).ib, 0, none⟩)] w (LstO w []) := by
  obtain ⟨P, hP⟩ : ∃ P : Ending → World → Prop, P = LstO w [] := ⟨_, rfl⟩
  rw [← hP]
  obtain ⟨dv, ev, k1, k2, k3, k4⟩ := (H.nd d p hq).blk
  have x8 := (ndc_of k1).c8
  rw [(k4 hk).1] at x8
  have hrg := run_range_nilMap (P := Tryz.prog) w 89 9 3 Tryz.underlying89
  have hnx : ∀ ty, (Instr.next (.pointer (some ⟨w.heap.size, 0, none⟩)) false ty).run Tryz.prog (w.alloc (.mapIter none 0 #[] 0)) = _ := fun ty => run_next_nilMap _ ty 0 0 #[]
  have HC : Hid (∀ V, Nw w V → Calls Tryz.prog 67 #[.slice none 0 0, .func (.func 68) #[] #[]] V fun e w' => e = .returned (.tuple #[]) ∧ Hid (P (.returned (.slice none 0 0)) w')) := fun V hV => by
    refine Calls.mono (hS V none none 0 [] ⟨rfl, rfl⟩ (by simp)) ?_
    rintro e w5 ⟨rfl, l', p1, p2, p3, p4⟩
    refine ⟨rfl, ?_⟩
    show P _ _
    rw [hP]
    have e1 : l' = [] := p1.eq_nil
    rw [e1] at p3
    exact ⟨none, none, 0, rfl, p3, hV.then p4 (fun i hi => by cases hi), fun g hg => by cases hg⟩
  have HC2 := tHid (HC.out (w.alloc (.mapIter none 0 #[] 0)) ((Fr.refl _ _).alloc _))
  clear H hP k1 k2 k3 k4 hq hS HC
  generalize (L d).ib = ib at *
  go_enter Tryz.func41, Tryz.ntmps41
  go_wp2_with fail
  go_loopg [3, 4, 5] 0 (fun kx v x4 x5 wr => v = .slice none 0 0 ∧ wr = w.alloc (.mapIter none 0 #[] 0))
  case atStart => exact ⟨rfl, rfl⟩
  case round =>
    obtain ⟨rfl, rfl⟩ := hrel
    go_wp2_with (first | (go_at_call 67; with_reducible refine HC2.out.mono ?_; rintro e w5 ⟨rfl, HF⟩))
    exact HF.out
end
end Go.Proofs.YtcogkhcfpgelhabGreat

namespace Go.Proofs.YtcogkhcfpgelhabGreat
open Go.RowKit
set_option linter.unusedVariables false
set_option maxRecDepth 100000
variable {w w' : World} {X : Nat → Prop}
/-! ### Rows of inodes, as an image has them -/
/-- A slice, and where it lies. -/
structure S3 where
  a : Option Addr
  n : Nat
  c : Nat
/-- An inode of an image, its bytes and its entries as slices. -/
structure Nq where
  x : Nd
  d : S3
  e : S3
def RNq : RT Nq := { enc := fun y => [.int .i64 y.x.num, .int .i64 y.x.kind, .int .u32 y.x.mt.mode, .int .u32 y.x.mt.uid, .int .u32 y.x.mt.gid, .int .i64 y.x.mt.time, .int .i32 y.x.mt.nano, .slice y.d.a y.d.n y.d.c, .string (mk y.x.tgt), .slice y.e.a y.e.n y.e.c], k := 10, T := 44, TS := 22, z := ⟨⟨0, 0, ⟨0, 0, 0, 0, 0⟩, [], [], []⟩, ⟨none, 0, 0⟩, ⟨none, 0, 0⟩⟩, by_ := 112 }
theorem rnqOk : RNq.Ok := by
  refine ⟨fun _ => rfl, by decide, fun x v hv => ?_, Tryz.underlying22, ?_⟩
  · simp only [RNq, List.mem_cons, List.mem_nil_iff, or_false] at hv
    rcases hv with rfl | rfl | rfl | rfl | rfl | rfl | rfl | rfl | rfl | rfl <;> rfl
  · have h : (Tryz.prog.info? 44).map (fun i => (i.zero, i.size, i.bytes)) = some (some (.agg #[.int .i64 0, .int .i64 0, .int .u32 0, .int .u32 0, .int .u32 0, .int .i64 0, .int .i32 0, .slice none 0 0, .string ⟨#[]⟩, .slice none 0 0]), 10, 112) := by kernel_rfl
    cases hq : Tryz.prog.info? 44 with
    | none => simp [hq] at h
    | some i => simp [hq] at h; exact ⟨i, _, hq, h.1, h.2.1, h.2.2, rfl⟩
/-- The bytes and the entries of an image's inode lie in blocks of their own, made since D. -/
def NqI (D : World) (y : Nq) (w : World) : Prop := (∃ od, OgB od (.slice y.d.a y.d.n y.d.c) y.x.data w ∧ ∀ g, od = some g → D.heap.size ≤ g) ∧ ∃ oe, OgR RNm oe (.slice y.e.a y.e.n y.e.c) y.x.ents w ∧ ∀ g, oe = some g → D.heap.size ≤ g
/-- An image's list, made since D. -/
def ImI (D : World) (v : Value) (l : List Nq) (w : World) : Prop := Nw D w ∧ (∃ og, OgR RNq og v l w ∧ ∀ g, og = some g → D.heap.size ≤ g) ∧ ∀ y ∈ l, NqI D y w
theorem NqI.nw {D : World} {y : Nq} (h : NqI D y w) (f : Nw w w') : NqI D y w' := by
  obtain ⟨⟨od, h1, h2⟩, oe, h3, h4⟩ := h
  exact ⟨⟨od, h1.nw f, h2⟩, oe, h3.nw f, h4⟩
theorem ImI.nw {D : World} {v : Value} {l : List Nq} (h : ImI D v l w) (f : Nw w w') : ImI D v l w' := by
  obtain ⟨h1, ⟨og, h2, h3⟩, h4⟩ := h
  exact ⟨h1.trans f, ⟨og, h2.nw f, h3⟩, fun y hy => (h4 y hy).nw f⟩
theorem ogr_tg {α : Type} {R : RT α} {og : Option Nat} {v : Value} {l : List α} (h : OgR R og v l w) (g : Nat) (hg : og = some g) : tg w g = some R.T := by
  subst hg
  obtain ⟨xs, _, _, _, _, h5⟩ := (h : OwR R g v l w)
  exact tg_cells h5
/-- One more inode behind the list: what its inodes hold lies in rows of other types. -/
theorem ImI.push {D : World} {a : Option Addr} {c : Nat} {l : List Nq} (h : ImI D (.slice a l.length c) l w) (hl : l.length ≤ 1000000000) (y : Nq) (hy : NqI D y w) :
    ∃ a' c' W, (∀ ty, (appV #[22, 22] ty #[.slice a l.length c, .slice (some ⟨w.heap.size, 0, none⟩) 1 1]).run Tryz.prog (w.alloc (.cells (RNq.enc y).toArray 44)) = .ok (.slice a' (l.length + 1) c') W) ∧ ImI D (.slice a' (l.length + 1) c') (l ++ [y]) W ∧ Fr (fun k => D.heap.size ≤ k ∧ tg w k = some 44) w W := by
  obtain ⟨h1, ⟨og, h2, h3⟩, h4⟩ := h
  have hN : Nw w (w.alloc (.cells (RNq.enc y).toArray 44)) := (Fr.refl _ _).alloc _
  have hb := OwR.built rnqOk w [y] (RNq.enc y).toArray (by simp [flatR]) (by simp)
  obtain ⟨v', og', W, k1, k2, k3, k4⟩ := ogR_app rnqOk _ og _ l (h2.nw hN) (.slice (some ⟨w.heap.size, 0, none⟩) 1 1) [y] ((hb.slr rnqOk).mono (fun _ h => h.elim)) (by simp only [RNq, List.length_singleton]; omega) (by simp only [List.length_singleton]; omega)
  obtain ⟨a', c', e2, q1, q2⟩ := k2.form
  rw [List.length_append, List.length_singleton] at e2 q1
  subst e2
  have hsz := h1.size
  have hs2 := hN.size
  have hkeep : ∀ z, NqI D z w → NqI D z W := fun z hz => by
    obtain ⟨⟨od, z1, z2⟩, oe, z3, z4⟩ := hz.nw hN
    refine ⟨⟨od, z1.kept k3 (fun g hg e => ?_), z2⟩, oe, z3.kept k3 (fun g hg e => ?_), z4⟩
    · have t1 := ogr_tg (h2.nw hN) g e
      rw [hg] at z1
      rw [z1.tg] at t1
      exact absurd t1 (by decide)
    · have t1 := ogr_tg (h2.nw hN) g e
      rw [ogr_tg z3 g hg] at t1
      exact absurd t1 (by decide)
  refine ⟨a', c', W, k1, ⟨h1.then (hN.any.trans k3) (fun i hi => .inr (h3 i hi)), ⟨og', k2, fun g hg => ?_⟩, fun z hz => ?_⟩, (hN.any.trans k3).mono (fun i hi => .inl ⟨h3 i hi, ogr_tg h2 i hi⟩)⟩
  · rcases k4 with e | ⟨g', e, hg'⟩
    · rw [e] at hg; exact h3 g hg
    · rw [e] at hg; injection hg with hg; omega
  · rcases List.mem_append.1 hz with hz | hz
    · exact hkeep z (h4 z hz)
    · rw [List.mem_singleton] at hz; rw [hz]; exact hkeep y hy
end Go.Proofs.YtcogkhcfpgelhabGreat

namespace Go.Proofs.YtcogkhcfpgelhabGreat
open Go.RowKit
set_option linter.unusedVariables false
set_option maxRecDepth 100000
variable {w w' : World} {X : Nat → Prop}
/-! ### An image that can be read -/
def NqR (y : Nq) (w : World) : Prop := Sl (fun _ => False) (.slice y.d.a y.d.n y.d.c) y.x.data w ∧ SlR RNm (fun _ => False) (.slice y.e.a y.e.n y.e.c) y.x.ents w
def ImR (v : Value) (l : List Nq) (w : World) : Prop := SlR RNq (fun _ => False) v l w ∧ ∀ y ∈ l, NqR y w
theorem NqR.nw {y : Nq} (h : NqR y w) (f : Nw w w') : NqR y w' := ⟨h.1.nw f, h.2.nw f⟩
theorem ImR.nw {v : Value} {l : List Nq} (h : ImR v l w) (f : Nw w w') : ImR v l w' := ⟨h.1.nw f, fun y hy => (h.2 y hy).nw f⟩
theorem NqI.r {D : World} {y : Nq} (h : NqI D y w) : NqR y w := by
  obtain ⟨⟨od, h1, _⟩, oe, h3, _⟩ := h
  exact ⟨h1.sl.mono (fun _ h => h.elim), (h3.slr rnmOk).mono (fun _ h => h.elim)⟩
theorem ImI.r {D : World} {v : Value} {l : List Nq} (h : ImI D v l w) : ImR v l w := by
  obtain ⟨_, ⟨og, h2, _⟩, h4⟩ := h
  exact ⟨(h2.slr rnqOk).mono (fun _ h => h.elim), fun y hy => (h4 y hy).r⟩
theorem NqR.dn {y : Nq} (h : NqR y w) : y.d.n = y.x.data.length ∧ y.d.c < 9223372036854775808 ∧ y.d.n ≤ y.d.c := by
  obtain ⟨a, c, e, h1, h2⟩ := h.1.form
  injection e with _ e2 e3
  exact ⟨e2, by rw [e3]; exact h2, by rw [e2, e3]; exact h1⟩
theorem NqR.en {y : Nq} (h : NqR y w) : y.e.n = y.x.ents.length ∧ y.e.c < 9223372036854775808 ∧ y.e.n ≤ y.e.c := by
  obtain ⟨a, c, e, h1, h2, _⟩ := h.2.form
  injection e with _ e2 e3
  exact ⟨e2, by rw [e3]; exact h2, by rw [e2, e3]; exact h1⟩
/-- What the texts and lists of an image's inode may be. -/
structure NdW (x : Nd) : Prop where
  tl : x.tgt.length ≤ 140737488351232
  nl : ∀ e ∈ x.ents, e.1.length ≤ 140737488351232
  e64 : ∀ e ∈ x.ents, I64 e.2
  n64 : I64 x.num
  k64 : I64 x.kind
  dl : x.data.length ≤ 140737488351232
  el : x.ents.length ≤ 1000000000
/-! ### Names -/
theorem leS (l m : Tx) (w : World) : (binOp BinOp.leq 9 (.string (mk l)) (.string (mk m))).run Tryz.prog w = .ok (.bool (!lt m l)) w := by
  have : (lt l m || l == m) = !lt m l := by
    rcases lt_tri l m with h | h | h
    · rw [h, lt_asymm h]; rfl
    · subst h; rw [lt_irrefl]; simp
    · rw [h, lt_asymm h]
      have : (l == m) = false := by
        rw [beq_eq_false_iff_ne]
        intro e; subst e; rw [lt_irrefl] at h; cases h
      rw [this]; rfl
  simp [binOp, Op.stringOp, mk_toList, this]
theorem cmpS3 (s last : Tx) : (lt last s = true ∧ Op.bytesLess (mk s).toList (mk last).toList = false ∧ ((mk s).toList == (mk last).toList) = false) ∨ (lt last s = false ∧ ((Op.bytesLess (mk s).toList (mk last).toList = true ∧ ((mk s).toList == (mk last).toList) = false) ∨ (Op.bytesLess (mk s).toList (mk last).toList = false ∧ ((mk s).toList == (mk last).toList) = true))) := by
  rw [mk_toList, mk_toList]
  rcases lt_tri s last with h | h | h
  · refine .inr ⟨lt_asymm h, .inl ⟨h, ?_⟩⟩
    rw [beq_eq_false_iff_ne]
    intro e; subst e; rw [lt_irrefl] at h; cases h
  · subst h
    exact .inr ⟨lt_irrefl s, .inr ⟨lt_irrefl s, by simp⟩⟩
  · refine .inl ⟨h, lt_asymm h, ?_⟩
    rw [beq_eq_false_iff_ne]
    intro e; subst e; rw [lt_irrefl] at h; cases h
theorem entsG_drop {es : List (Tx × Int)} {I : Nat} (h : I < es.length) (last : Tx) : entsG last (es.drop I) = (lt last (es[I]).1 && nmOk (es[I]).1 && entsG (es[I]).1 (es.drop (I + 1))) := by
  rw [List.drop_eq_getElem_cons h]; rfl
set_option maxHeartbeats 8000000 in
theorem entries_any (es : List (Tx × Int)) (a : Option Addr) (n c : Nat) (hn : n = es.length) (hs : SlR RNm (fun _ => False) (.slice a n c) es w) (hl : ∀ e ∈ es, e.1.length ≤ 140737488351232) (hel : es.length ≤ 1000000000000) :
    Calls Tryz.prog 92 #[.slice a n c] w fun e w' => e = .returned (.bool (entsG [] es)) ∧ Nw w w' := by
  obtain ⟨P, hP⟩ : ∃ P : Ending → World → Prop, P = fun e w' => e = .returned (.bool (entsG [] es)) ∧ Nw w w' := ⟨_, rfl⟩
  rw [← hP]
  have HF : Hid (∀ V b, Nw w V → entsG [] es = b → P (.returned (.bool b)) V) := fun V b hV hb => by rw [hP, ← hb]; exact ⟨rfl, hV⟩
  have HN : Hid (∀ l W, l.length ≤ 140737488351232 → Calls Tryz.prog 75 #[.string (mk l)] W fun e w' => e = .returned (.bool (nmOk l)) ∧ W = w') := fun l W h => isName_any l W h
  have HS := tHid hs
  have HL := tHid hl
  have HNN := tHid hn
  have HE := tHid hel
  clear hP hs hl hn hel
  go_enter Tryz.func92, Tryz.ntmps92
  go_wp2_with fail
  go_loopg [3, 8] n (fun kx s3 i wr => ∃ (I : Nat) (last : Tx), I ≤ n ∧ n - I ≤ kx ∧ s3 = .string (mk last) ∧ i = .int .i64 I ∧ Hid (Nw w wr ∧ entsG [] es = entsG last (es.drop I)))
  case atStart => exact ⟨0, [], by omega, by omega, rfl, rfl, Fr.refl _ _, rfl⟩
  case round =>
    obtain ⟨I, last, hI, hkx, rfl, rfl, HR⟩ := hrel
    by_cases hlt : I < n
    · have hIl : I < es.length := by rw [← HNN.out]; exact hlt
      obtain ⟨g, o, rfl, _, hc⟩ := (HS.out.nw HR.out.1).at I (es[I]) (List.getElem?_eq_getElem hIl)
      have c0 : wr.cell? ⟨g, o + I * 2, none⟩ = some (.string (mk (es[I]).1)) := hc 0 _ rfl
      have c1 : wr.cell? ⟨g, o + I * 2 + 1, none⟩ = some (.int .i64 (es[I]).2) := hc 1 _ rfl
      obtain ⟨s, k, he⟩ : ∃ s k, es[I] = (s, k) := ⟨_, _, rfl⟩
      have hst := entsG_drop hIl last
      rw [he] at hst c0 c1
      have hsl := HL.out _ (List.getElem_mem hIl)
      rw [he] at hsl
      have HSL := tHid hsl
      have hlt2 : (I : Int) < (n : Int) := by omega
      have hltd := decide_eq_true hlt2
      have hltn := decide_eq_true hlt
      obtain ⟨V3, hV3⟩ : ∃ V3, wr.alloc (.cells #[.string (mk s), .int .i64 k] 57) = V3 := ⟨_, rfl⟩
      have hN3 : Nw wr V3 := by rw [← hV3]; exact (Fr.refl _ _).alloc _
      have y0 : V3.cell? ⟨wr.heap.size, 0, none⟩ = some (.string (mk s)) := by rw [← hV3]; exact (rc (nh wr _) 0 _ rfl).1
      have HR2 : Hid (Nw w V3 ∧ entsG [] es = (lt last s && nmOk s && entsG s (es.drop (I + 1)))) := ⟨HR.out.1.trans hN3, by rw [HR.out.2, hst]⟩
      have zwj : IntKind.i64.wrap ((I : Int) + 1) = (I : Int) + 1 := by rw [IntKind.wrap_i64]; have := HE.out; have := HNN.out; omega
      have hkl : (0 : Int) ≤ (I : Int) := by omega
      clear HR hN3 hst hsl hc he hIl
      have hcmp : (lt last s = true ∧ Op.bytesLess (mk s).toList (mk last).toList = false ∧ ((mk s).toList == (mk last).toList) = false) ∨ (lt last s = false ∧ ((Op.bytesLess (mk s).toList (mk last).toList = true ∧ ((mk s).toList == (mk last).toList) = false) ∨ (Op.bytesLess (mk s).toList (mk last).toList = false ∧ ((mk s).toList == (mk last).toList) = true))) := cmpS3 s last
      rcases hcmp with ⟨hb1, hx1, hx2⟩ | ⟨hb1, hx⟩
      · rcases Bool.eq_false_or_eq_true (nmOk s) with hb2 | hb2
        · have HR3 : Hid (Nw w V3 ∧ entsG [] es = entsG s (es.drop (I + 1))) := ⟨HR2.out.1, by rw [HR2.out.2, hb1, hb2]; rfl⟩
          have HNM := tHid (HN.out s V3 HSL.out)
          rw [hb2] at HNM
          clear HR2 hb1 hb2 HF HN HS HL HE HNN
          go_wp2_with (first | (go_at_call 75; with_reducible refine HNM.out.mono ?_; rintro e w4 ⟨rfl, rfl⟩))
          go_roundg (n - (I + 1))
          case measure => omega
          case rel => exact ⟨I + 1, s, by omega, by omega, rfl, by first | rfl | (congr 1), HR3⟩
        · have HF2 := tHid (HF.out V3 false HR2.out.1 (by rw [HR2.out.2, hb1, hb2]; rfl))
          have HNM := tHid (HN.out s V3 HSL.out)
          rw [hb2] at HNM
          clear HR2 hb1 hb2 HF HN HS HL HE HNN
          go_wp2_with (first | (go_at_call 75; with_reducible refine HNM.out.mono ?_; rintro e w4 ⟨rfl, rfl⟩))
          exact HF2.out
      · have HF2 := tHid (HF.out V3 false HR2.out.1 (by rw [HR2.out.2, hb1]; rfl))
        clear HR2 hb1 HF HN HS HL HE HNN
        rcases hx with ⟨hx1, hx2⟩ | ⟨hx1, hx2⟩
        · go_wp2_with fail
          exact HF2.out
        · go_wp2_with fail
          exact HF2.out
    · have hIe : I = n := by omega
      have hlt2 : ¬ (I : Int) < (n : Int) := by omega
      have hltd := decide_eq_false hlt2
      have hltn := decide_eq_false hlt
      have HF2 := tHid (HF.out wr true HR.out.1 (by rw [HR.out.2, hIe, HNN.out, List.drop_length]; rfl))
      clear HR HF HN HS HL HE HNN hIe
      go_wp2_with fail
      exact HF2.out
end Go.Proofs.YtcogkhcfpgelhabGreat

namespace Go.Proofs.YtcogkhcfpgelhabGreat
open Go.RowKit
set_option linter.unusedVariables false
set_option maxRecDepth 100000
variable {w w' : World} {X : Nat → Prop}
theorem ndB_dir {x : Nd} (h : x.kind = 1) : ndB x = (decide (x.data = []) && decide (x.tgt = []) && entsG [] x.ents && mtOk x.mt) := by unfold ndB; rw [if_pos h]
theorem ndB_file {x : Nd} (h : x.kind = 2) : ndB x = (decide (x.data.length ≤ 4194304) && decide (x.tgt = []) && decide (x.ents = []) && mtOk x.mt) := by unfold ndB; rw [if_neg (by omega), if_pos h]
theorem ndB_link {x : Nd} (h : x.kind = 3) : ndB x = (decide (x.data = []) && tgOk x.tgt && decide (x.ents = []) && mtOk x.mt) := by unfold ndB; rw [if_neg (by omega), if_neg (by omega), if_pos h]
theorem ndB_none {x : Nd} (h1 : x.kind ≠ 1) (h2 : x.kind ≠ 2) (h3 : x.kind ≠ 3) : ndB x = false := by unfold ndB; rw [if_neg h1, if_neg h2, if_neg h3]
theorem len0 {α : Type} (l : List α) : decide ((l.length : Int) = 0) = decide (l = []) := by
  cases l with
  | nil => rfl
  | cons a r => simp; omega
theorem and4f (a b c d : Bool) (h : a = false ∨ b = false ∨ c = false ∨ d = false) : (a && b && c && d) = false := by
  rcases h with h | h | h | h <;> subst h <;> simp
set_option maxHeartbeats 16000000 in
theorem inode_any (y : Nq) (hy : NqR y w) (hw : NdW y.x) :
    Calls Tryz.prog 78 #[.agg (RNq.enc y).toArray] w fun e w' => e = .returned (.bool (ndB y.x)) ∧ Nw w w' := by
  obtain ⟨P, hP⟩ : ∃ P : Ending → World → Prop, P = fun e w' => e = .returned (.bool (ndB y.x)) ∧ Nw w w' := ⟨_, rfl⟩
  rw [← hP]
  have HF : Hid (∀ V b, Nw w V → ndB y.x = b → P (.returned (.bool b)) V) := fun V b hV hb => by rw [hP, ← hb]; exact ⟨rfl, hV⟩
  clear hP
  have hd := hy.dn
  have he := hy.en
  obtain ⟨V, hV⟩ : ∃ V, w.alloc (.cells (RNq.enc y).toArray 44) = V := ⟨_, rfl⟩
  have hN : Nw w V := by rw [← hV]; exact (Fr.refl _ _).alloc _
  have hyV := hy.nw hN
  obtain ⟨x, ⟨da, dn, dc⟩, ⟨ea, en, ec⟩⟩ := y
  simp only at hd he hw
  obtain ⟨hd1, hd2, hd3⟩ := hd
  obtain ⟨he1, he2, he3⟩ := he
  have HC : Hid (∀ W, Nw V W → ∀ j v, (RNq.enc ⟨x, ⟨da, dn, dc⟩, ⟨ea, en, ec⟩⟩)[j]? = some v → W.cell? ⟨w.heap.size, j, none⟩ = some v) := fun W hW j v hv => hW.cell (by rw [← hV]; exact (rc (nh w _) j v (by simpa using hv)).1)
  have hc := HC.out V (Fr.refl _ _)
  have HEN : Hid (∀ W, Nw V W → Calls Tryz.prog 92 #[.slice ea en ec] W fun e w' => e = .returned (.bool (entsG [] x.ents)) ∧ Hid (Nw V w')) := fun W hW => Calls.mono (entries_any x.ents ea en ec he1 (hyV.nw hW).2 hw.nl (by have := hw.el; omega)) (fun e w' h => ⟨h.1, hW.trans h.2⟩)
  have HTG : Hid (∀ W, Calls Tryz.prog 74 #[.string (mk x.tgt)] W fun e w' => e = .returned (.bool (tgOk x.tgt)) ∧ W = w') := fun W => isTarget_any x.tgt W hw.tl
  have HMT : Hid (∀ W, Nw V W → Calls Tryz.prog 63 #[.agg #[.int .u32 x.mt.mode, .int .u32 x.mt.uid, .int .u32 x.mt.gid, .int .i64 x.mt.time, .int .i32 x.mt.nano]] W fun e w' => e = .returned (.bool (mtOk x.mt)) ∧ Hid (Nw V w')) := fun W hW => Calls.mono (isMeta_any x.mt W) (fun e w' h => ⟨h.1, hW.trans h.2⟩)
  have c1 : V.cell? ⟨w.heap.size, 1, none⟩ = some (.int .i64 x.kind) := hc 1 _ rfl
  have c7 : V.cell? ⟨w.heap.size, 7, none⟩ = some (.slice da dn dc) := hc 7 _ rfl
  have c8 : V.cell? ⟨w.heap.size, 8, none⟩ = some (.string (mk x.tgt)) := hc 8 _ rfl
  have c9 : V.cell? ⟨w.heap.size, 9, none⟩ = some (.slice ea en ec) := hc 9 _ rfl
  have hdB : decide ((dn : Int) = 0) = decide (x.data = []) := by rw [hd1]; exact len0 _
  have heB : decide ((en : Int) = 0) = decide (x.ents = []) := by rw [he1]; exact len0 _
  have heB2 : ((en : Int) == 0) = decide (x.ents = []) := by rw [← heB]; rfl
  have hdB2 : ((dn : Int) == 0) = decide (x.data = []) := by rw [← hdB]; rfl
  have htB : ((mk x.tgt).toList == []) = decide (x.tgt = []) := mk_eqr x.tgt []
  have hdL : decide ((dn : Int) ≤ 4194304) = decide (x.data.length ≤ 4194304) := by rw [hd1]; congr 1; exact propext ⟨fun h => by omega, fun h => by omega⟩
  have HMC : Hid (∀ W, Nw V W → W.cell? ⟨w.heap.size, 2, none⟩ = some (.int .u32 x.mt.mode) ∧ W.cell? ⟨w.heap.size, 3, none⟩ = some (.int .u32 x.mt.uid) ∧ W.cell? ⟨w.heap.size, 4, none⟩ = some (.int .u32 x.mt.gid) ∧ W.cell? ⟨w.heap.size, 5, none⟩ = some (.int .i64 x.mt.time) ∧ W.cell? ⟨w.heap.size, 6, none⟩ = some (.int .i32 x.mt.nano)) := fun W hW => ⟨HC.out W hW 2 _ rfl, HC.out W hW 3 _ rfl, HC.out W hW 4 _ rfl, HC.out W hW 5 _ rfl, HC.out W hW 6 _ rfl⟩
  have HW := tHid hV
  have HNW := tHid hN
  have HK1 := @ndB_dir x
  have HK2 := @ndB_file x
  have HK3 := @ndB_link x
  have HK4 := @ndB_none x
  have HNB : Hid ((x.kind = 1 → ndB x = (decide (x.data = []) && decide (x.tgt = []) && entsG [] x.ents && mtOk x.mt)) ∧ (x.kind = 2 → ndB x = (decide (x.data.length ≤ 4194304) && decide (x.tgt = []) && decide (x.ents = []) && mtOk x.mt)) ∧ (x.kind = 3 → ndB x = (decide (x.data = []) && tgOk x.tgt && decide (x.ents = []) && mtOk x.mt)) ∧ (x.kind ≠ 1 → x.kind ≠ 2 → x.kind ≠ 3 → ndB x = false)) := ⟨HK1, HK2, HK3, HK4⟩
  clear hV hN hyV hy hc HC hw hd1 hd2 hd3 he1 he2 he3 HK1 HK2 HK3 HK4
  generalize decide (x.data = []) = D1 at *
  generalize decide (x.ents = []) = E1 at *
  generalize decide (x.tgt = []) = T1 at *
  generalize decide (x.data.length ≤ 4194304) = D2 at *
  generalize entsG [] x.ents = E2 at *
  generalize tgOk x.tgt = T2 at *
  generalize mtOk x.mt = M1 at *
  generalize ndB x = NB at *
  generalize x.kind = kd at *
  simp only [RNq]
  go_enter Tryz.func78, Tryz.ntmps78
  go_upto_region 1 with fail
  have hW2 := HW.out
  simp only [RNq] at hW2
  rw [hW2]
  clear hW2 HW
  go_cut [3, 4, 5] (fun a b c wx => a = .bool D1 ∧ b = .bool T1 ∧ c = .bool E1 ∧ Hid (Nw V wx))
  case first =>
    go_quiet (fail)
    go_wp2_with fail
    go_meet
    exact ⟨rfl, rfl, rfl, (Fr.refl _ _).drewN _⟩
  case rest =>
  obtain ⟨rfl, rfl, rfl, HX⟩ := hcut
  have c1 := HX.out.cell c1
  have c7 := HX.out.cell c7
  have c8 := HX.out.cell c8
  have c9 := HX.out.cell c9
  by_cases hk1 : kd = 1
  · subst hk1
    have hNB := HNB.out.1 rfl
    go_upto_region 10 with (first | (go_at_call 92; with_reducible refine (HEN.out _ HX.out).mono ?_; rintro e w4 ⟨rfl, H4⟩))
    obtain ⟨m2, m3, m4, m5, m6⟩ := HMC.out w4 H4.out
    have HM4 := tHid (HMT.out w4 H4.out)
    have HF4 : Hid (∀ b, NB = b → P (.returned (.bool b)) w4) := fun b hb => HF.out _ b (HNW.out.trans H4.out) hb
    have HF5 : Hid (∀ V2 b, Hid (Nw V V2) → NB = b → P (.returned (.bool b)) V2) := fun V2 b hV hb => HF.out _ b (HNW.out.trans hV.out) hb
    clear HF HMC HMT HEN HTG HNB HNW c1 c7 c8 c9
    rcases Bool.eq_false_or_eq_true D1 with hvD1 | hvD1
    rotate_left
    · subst hvD1
      have HL := tHid (HF4.out false (by rw [hNB]; simp))
      clear hNB HF4 HF5 HM4
      go_wp2_with fail
      exact HL.out
    subst hvD1
    rcases Bool.eq_false_or_eq_true T1 with hvT1 | hvT1
    rotate_left
    · subst hvT1
      have HL := tHid (HF4.out false (by rw [hNB]; simp))
      clear hNB HF4 HF5 HM4
      go_wp2_with fail
      exact HL.out
    subst hvT1
    rcases Bool.eq_false_or_eq_true E2 with hvE2 | hvE2
    rotate_left
    · subst hvE2
      have HL := tHid (HF4.out false (by rw [hNB]; simp))
      clear hNB HF4 HF5 HM4
      go_wp2_with fail
      exact HL.out
    subst hvE2
    have hNB2 := tHid (show NB = M1 by rw [hNB]; simp)
    clear hNB HF4
    go_wp2_with (first | (go_at_call 63; with_reducible refine HM4.out.mono ?_; rintro e w5 ⟨rfl, H5⟩))
    exact HF5.out _ _ H5 hNB2.out
  · by_cases hk2 : kd = 2
    · subst hk2
      have hNB := HNB.out.2.1 rfl
      go_upto_region 10 with fail
      obtain ⟨m2, m3, m4, m5, m6⟩ := HMC.out wc HX.out
      have HM4 := tHid (HMT.out wc HX.out)
      have HF4 : Hid (∀ b, NB = b → P (.returned (.bool b)) wc) := fun b hb => HF.out _ b (HNW.out.trans HX.out) hb
      have HF5 : Hid (∀ V2 b, Hid (Nw V V2) → NB = b → P (.returned (.bool b)) V2) := fun V2 b hV hb => HF.out _ b (HNW.out.trans hV.out) hb
      clear HF HMC HMT HEN HTG HNB HNW c1 c7 c8 c9
      rcases Bool.eq_false_or_eq_true D2 with hvD2 | hvD2
      rotate_left
      · subst hvD2
        have HL := tHid (HF4.out false (by rw [hNB]; simp))
        clear hNB HF4 HF5 HM4
        go_wp2_with fail
        exact HL.out
      subst hvD2
      rcases Bool.eq_false_or_eq_true T1 with hvT1 | hvT1
      rotate_left
      · subst hvT1
        have HL := tHid (HF4.out false (by rw [hNB]; simp))
        clear hNB HF4 HF5 HM4
        go_wp2_with fail
        exact HL.out
      subst hvT1
      rcases Bool.eq_false_or_eq_true E1 with hvE1 | hvE1
      rotate_left
      · subst hvE1
        have HL := tHid (HF4.out false (by rw [hNB]; simp))
        clear hNB HF4 HF5 HM4
        go_wp2_with fail
        exact HL.out
      subst hvE1
      have hNB2 := tHid (show NB = M1 by rw [hNB]; simp)
      clear hNB HF4
      go_wp2_with (first | (go_at_call 63; with_reducible refine HM4.out.mono ?_; rintro e w5 ⟨rfl, H5⟩))
      exact HF5.out _ _ H5 hNB2.out
    · by_cases hk3 : kd = 3
      · subst hk3
        have hNB := HNB.out.2.2.1 rfl
        go_upto_region 10 with (first | (go_at_call 74; with_reducible refine (HTG.out _).mono ?_; rintro e w4 ⟨rfl, rfl⟩))
        obtain ⟨m2, m3, m4, m5, m6⟩ := HMC.out wc HX.out
        have HM4 := tHid (HMT.out wc HX.out)
        have HF4 : Hid (∀ b, NB = b → P (.returned (.bool b)) wc) := fun b hb => HF.out _ b (HNW.out.trans HX.out) hb
        have HF5 : Hid (∀ V2 b, Hid (Nw V V2) → NB = b → P (.returned (.bool b)) V2) := fun V2 b hV hb => HF.out _ b (HNW.out.trans hV.out) hb
        clear HF HMC HMT HEN HTG HNB HNW c1 c7 c8 c9
        rcases Bool.eq_false_or_eq_true D1 with hvD1 | hvD1
        rotate_left
        · subst hvD1
          have HL := tHid (HF4.out false (by rw [hNB]; simp))
          clear hNB HF4 HF5 HM4
          go_wp2_with fail
          exact HL.out
        subst hvD1
        rcases Bool.eq_false_or_eq_true T2 with hvT2 | hvT2
        rotate_left
        · subst hvT2
          have HL := tHid (HF4.out false (by rw [hNB]; simp))
          clear hNB HF4 HF5 HM4
          go_wp2_with fail
          exact HL.out
        subst hvT2
        rcases Bool.eq_false_or_eq_true E1 with hvE1 | hvE1
        rotate_left
        · subst hvE1
          have HL := tHid (HF4.out false (by rw [hNB]; simp))
          clear hNB HF4 HF5 HM4
          go_wp2_with fail
          exact HL.out
        subst hvE1
        have hNB2 := tHid (show NB = M1 by rw [hNB]; simp)
        clear hNB HF4
        go_wp2_with (first | (go_at_call 63; with_reducible refine HM4.out.mono ?_; rintro e w5 ⟨rfl, H5⟩))
        exact HF5.out _ _ H5 hNB2.out
      · have HL := tHid (HF.out wc false (HNW.out.trans HX.out) (HNB.out.2.2.2 hk1 hk2 hk3))
        clear HF HMC HMT HEN HTG HNB HNW c7 c8 c9
        go_wp2_with fail
        exact HL.out
end Go.Proofs.YtcogkhcfpgelhabGreat

namespace Go.Proofs.YtcogkhcfpgelhabGreat
open Go.RowKit
set_option linter.unusedVariables false
set_option maxRecDepth 100000
variable {w w' : World} {X : Nat → Prop}
theorem inoG_drop {l : List Nd} {I : Nat} {x : Nd} (h : l[I]? = some x) (next last : Int) : inoG next last (l.drop I) = (decide (last < x.num) && decide (x.num < next) && ndB x && inoG next x.num (l.drop (I + 1))) := by
  obtain ⟨hI, rfl⟩ := List.getElem?_eq_some_iff.1 h
  rw [List.drop_eq_getElem_cons hI]; rfl
theorem held_take {l : List Nd} {I : Nat} {x : Nd} (h : l[I]? = some x) : heldF (l.take (I + 1)) = heldF (l.take I) + x.data.length := by
  unfold heldF
  rw [List.take_add_one, h, List.map_append, List.sum_append]
  simp
/-- Ten cells of an inode in an image, at a block. -/
def NqC (g o : Nat) (y : Nq) (w : World) : Prop := w.cell? ⟨g, o, none⟩ = some (.int .i64 y.x.num) ∧ w.cell? ⟨g, o + 1, none⟩ = some (.int .i64 y.x.kind) ∧ w.cell? ⟨g, o + 2, none⟩ = some (.int .u32 y.x.mt.mode) ∧ w.cell? ⟨g, o + 3, none⟩ = some (.int .u32 y.x.mt.uid) ∧ w.cell? ⟨g, o + 4, none⟩ = some (.int .u32 y.x.mt.gid) ∧ w.cell? ⟨g, o + 5, none⟩ = some (.int .i64 y.x.mt.time) ∧ w.cell? ⟨g, o + 6, none⟩ = some (.int .i32 y.x.mt.nano) ∧ w.cell? ⟨g, o + 7, none⟩ = some (.slice y.d.a y.d.n y.d.c) ∧ w.cell? ⟨g, o + 8, none⟩ = some (.string (mk y.x.tgt)) ∧ w.cell? ⟨g, o + 9, none⟩ = some (.slice y.e.a y.e.n y.e.c)
theorem ImR.at {a : Option Addr} {n c : Nat} {l : List Nq} (h : ImR (.slice a n c) l w) (I : Nat) (hI : I < l.length) : ∃ g o, a = some ⟨g, o, none⟩ ∧ NqC g (o + I * 10) l[I] w := by
  obtain ⟨g, o, e, _, hc⟩ := h.1.at I (l[I]) (List.getElem?_eq_getElem hI)
  exact ⟨g, o, e, hc 0 _ rfl, hc 1 _ rfl, hc 2 _ rfl, hc 3 _ rfl, hc 4 _ rfl, hc 5 _ rfl, hc 6 _ rfl, hc 7 _ rfl, hc 8 _ rfl, hc 9 _ rfl⟩
/-- The same ten cells, alone in a block that was made of them. -/
abbrev nqC (y : Nq) : Array Value := #[.int .i64 y.x.num, .int .i64 y.x.kind, .int .u32 y.x.mt.mode, .int .u32 y.x.mt.uid, .int .u32 y.x.mt.gid, .int .i64 y.x.mt.time, .int .i32 y.x.mt.nano, .slice y.d.a y.d.n y.d.c, .string (mk y.x.tgt), .slice y.e.a y.e.n y.e.c]
theorem NqC.made (w : World) (y : Nq) : NqC w.heap.size 0 y (w.alloc (.cells (nqC y) 44)) := ⟨(rc (nh w _) 0 _ rfl).1, (rc (nh w _) 1 _ rfl).1, (rc (nh w _) 2 _ rfl).1, (rc (nh w _) 3 _ rfl).1, (rc (nh w _) 4 _ rfl).1, (rc (nh w _) 5 _ rfl).1, (rc (nh w _) 6 _ rfl).1, (rc (nh w _) 7 _ rfl).1, (rc (nh w _) 8 _ rfl).1, (rc (nh w _) 9 _ rfl).1⟩
theorem NqC.nw {g o : Nat} {y : Nq} (h : NqC g o y w) (f : Nw w w') : NqC g o y w' := by
  obtain ⟨a, b, c, d, e, f1, g1, h1, i, j⟩ := h
  exact ⟨f.cell a, f.cell b, f.cell c, f.cell d, f.cell e, f.cell f1, f.cell g1, f.cell h1, f.cell i, f.cell j⟩
abbrev imV (X : Im) (v : Value) : Value := .agg #[.int .i64 X.nodes, .int .i64 X.bytes, .int .i64 X.next, v]
set_option maxHeartbeats 16000000 in
theorem inodes_any (X : Im) (l : List Nq) (a : Option Addr) (n c : Nat) (hl : l.map Nq.x = X.l) (hn : n = l.length) (h1 : 1 ≤ n) (h2 : n ≤ 4096) (hm : ImR (.slice a n c) l w) (hw : ∀ y ∈ l, NdW y.x) :
    Calls Tryz.prog 59 #[imV X (.slice a n c)] w fun e w' => e = .returned (.bool (inodB X)) ∧ Nw w w' := by
  obtain ⟨P, hP⟩ : ∃ P : Ending → World → Prop, P = fun e w' => e = .returned (.bool (inodB X)) ∧ Nw w w' := ⟨_, rfl⟩
  rw [← hP]
  have HF : Hid (∀ V b, Nw w V → inodB X = b → P (.returned (.bool b)) V) := fun V b hV hb => by rw [hP, ← hb]; exact ⟨rfl, hV⟩
  clear hP
  have hlen : X.l.length = n := by rw [← hl, List.length_map, hn]
  have hget : ∀ I, X.l[I]? = (l[I]?).map Nq.x := fun I => by rw [← hl, List.getElem?_map]
  obtain ⟨V, hV⟩ : ∃ V, w.alloc (.cells #[.int .i64 X.nodes, .int .i64 X.bytes, .int .i64 X.next, .slice a n c] 24) = V := ⟨_, rfl⟩
  have hN : Nw w V := by rw [← hV]; exact (Fr.refl _ _).alloc _
  have HI : Hid (∀ W, Nw V W → W.cell? ⟨w.heap.size, 1, none⟩ = some (.int .i64 X.bytes) ∧ W.cell? ⟨w.heap.size, 2, none⟩ = some (.int .i64 X.next) ∧ W.cell? ⟨w.heap.size, 3, none⟩ = some (.slice a n c)) := fun W hW => ⟨hW.cell (by rw [← hV]; exact (rc (nh w _) 1 _ rfl).1), hW.cell (by rw [← hV]; exact (rc (nh w _) 2 _ rfl).1), hW.cell (by rw [← hV]; exact (rc (nh w _) 3 _ rfl).1)⟩
  have HM : Hid (∀ W, Nw V W → ImR (.slice a n c) l W) := fun W hW => (hm.nw hN).nw hW
  obtain ⟨i1, i2, i3⟩ := HI.out V (Fr.refl _ _)
  have hI0 : 0 < l.length := by omega
  obtain ⟨g, o, rfl, hc0⟩ := (HM.out V (Fr.refl _ _)).at 0 hI0
  have hc0' : NqC g o l[0] V := by have := hc0; rw [Nat.zero_mul, Nat.add_zero] at this; exact this
  obtain ⟨y0, hy0⟩ : ∃ y0, l[0] = y0 := ⟨_, rfl⟩
  rw [hy0] at hc0'
  obtain ⟨c0, c1, c2, c3, c4, c5, c6, c7, c8, c9⟩ := hc0'
  obtain ⟨V2, hV2⟩ : ∃ V2, V.alloc (.cells (nqC y0) 44) = V2 := ⟨_, rfl⟩
  have hN2 : Nw V V2 := by rw [← hV2]; exact (Fr.refl _ _).alloc _
  have hd := NqC.made V y0
  rw [hV2] at hd
  have z0 := hd.1
  have z1 : V2.cell? ⟨V.heap.size, 1, none⟩ = some (.int .i64 y0.x.kind) := hd.2.1
  have HRT : Hid (rtB X.l = (decide (y0.x.num = 1) && decide (y0.x.kind = 1))) := by
    have h3 := hget 0
    rw [List.getElem?_eq_getElem hI0, hy0] at h3
    show rtB X.l = _
    cases hx : X.l with
    | nil => rw [hx] at hlen; simp at hlen; omega
    | cons r t =>
      have : r = y0.x := by rw [hx] at h3; simpa using h3
      unfold rtB
      rw [this]
  have HLN := tHid hlen
  have HGT := tHid hget
  have HNN := tHid hn
  have HWW := tHid hw
  have HV := tHid hV
  have HV2 := tHid hV2
  have HN := tHid hN
  have HN2 := tHid hN2
  have HB1 := tHid h1
  have HB2 := tHid h2
  clear hlen hget hn hw hV hV2 hN hN2 hl hm hc0 hd hy0 hI0 h1 h2
  obtain ⟨j1, j2, j3⟩ := HI.out V2 HN2.out
  have hq : (y0.x.num = 1 ∧ y0.x.kind = 1) ∨ (rtB X.l = false ∧ ((y0.x.num = 1 ∧ y0.x.kind ≠ 1) ∨ y0.x.num ≠ 1)) := by
    by_cases e1 : y0.x.num = 1
    · by_cases e2 : y0.x.kind = 1
      · exact .inl ⟨e1, e2⟩
      · exact .inr ⟨by rw [HRT.out, decide_eq_false e2]; simp, .inl ⟨e1, e2⟩⟩
    · exact .inr ⟨by rw [HRT.out, decide_eq_false e1]; simp, .inr e1⟩
  have HQ := tHid hq
  clear hq
  have e00 : (0 : Int) < (n : Int) := by have := HB1.out; omega
  unfold nqC at HV2
  go_enter Tryz.func59, Tryz.ntmps59
  go_upto_region 1 with fail
  rw [HV.out]
  clear HV
  go_upto_region 2 with fail
  rw [HV2.out]
  clear HV2 c0 c1 c2 c3 c4 c5 c6 c7 c8 c9 i1 i2 i3
  rcases HQ.out with ⟨hn0, hk0⟩ | ⟨hf, hq⟩
  rotate_left
  · have HL := tHid (HF.out V2 false (HN.out.trans HN2.out) (by unfold inodB; rw [hf]; rfl))
    clear HQ HF HRT HGT HWW HM HI hf HN HN2 j1 j2 j3 HLN HNN HB1 HB2
    rcases hq with ⟨hn0, hk⟩ | hk
    · go_wp2_with fail
      exact HL.out
    · go_wp2_with fail
      exact HL.out
  have HRT2 : Hid (rtB X.l = true) := by show rtB X.l = true; rw [HRT.out, hn0, hk0]; rfl
  clear HQ HRT
  go_wp2_with fail
  clear j1 j2 j3 z0 z1 hn0 hk0
  go_loopg [4, 5, 23] n (fun kx s4 s5 i wr => ∃ (I H : Nat) (last : Int), I ≤ n ∧ n - I ≤ kx ∧ s4 = .int .i64 last ∧ s5 = .int .i64 H ∧ i = .int .i64 I ∧ Hid (Nw V wr ∧ inoG X.next 0 X.l = inoG X.next last (X.l.drop I) ∧ H = heldF (X.l.take I) ∧ H ≤ I * 4194304))
  case atStart => exact ⟨0, 0, 0, by omega, by omega, rfl, rfl, rfl, HN2.out, rfl, rfl, by omega⟩
  case round =>
    obtain ⟨I, H, last, hI, hkx, rfl, rfl, rfl, HR⟩ := hrel
    by_cases hlt : I < n
    · have hIl : I < l.length := by rw [← HNN.out]; exact hlt
      obtain ⟨g', o', e', hc⟩ := (HM.out wr HR.out.1).at I hIl
      injection e' with e'
      injection e' with e1 e2
      subst e1 e2
      obtain ⟨y, hy⟩ : ∃ y, l[I] = y := ⟨_, rfl⟩
      rw [hy] at hc
      obtain ⟨c0, c1, c2, c3, c4, c5, c6, c7, c8, c9⟩ := hc
      have hxI : X.l[I]? = some y.x := by rw [HGT.out I, List.getElem?_eq_getElem hIl, hy]; rfl
      have hmy : y ∈ l := by rw [← hy]; exact List.getElem_mem hIl
      have hst := inoG_drop hxI X.next last
      have hht := held_take hxI
      have hwy := HWW.out y hmy
      have hry : NqR y wr := (HM.out wr HR.out.1).2 y hmy
      obtain ⟨V3, hV3⟩ : ∃ V3, wr.alloc (.cells (nqC y) 44) = V3 := ⟨_, rfl⟩
      have hN3 : Nw wr V3 := by rw [← hV3]; exact (Fr.refl _ _).alloc _
      have hd := NqC.made wr y
      rw [hV3] at hd
      have HD := tHid hd
      have HIN : Hid (Calls Tryz.prog 78 #[.agg (nqC y)] V3 fun e w' => e = .returned (.bool (ndB y.x)) ∧ Hid (Nw V3 w')) := Calls.mono (inode_any y (hry.nw hN3) hwy) (fun e w' h => ⟨h.1, h.2⟩)
      have HR2 : Hid (Nw V V3 ∧ inoG X.next 0 X.l = (decide (last < y.x.num) && decide (y.x.num < X.next) && ndB y.x && inoG X.next y.x.num (X.l.drop (I + 1))) ∧ H + y.x.data.length = heldF (X.l.take (I + 1)) ∧ H ≤ I * 4194304 ∧ y.d.n = y.x.data.length ∧ (ndB y.x = true → y.x.data.length ≤ 4194304)) := ⟨HR.out.1.trans hN3, by rw [HR.out.2.1, hst], by rw [hht, HR.out.2.2.1], HR.out.2.2.2, hry.dn.1, fun h => ((ndB_iff _).1 h).1.len⟩
      obtain ⟨j1, j2, j3⟩ := HI.out V3 HR2.out.1
      obtain ⟨z0, z1, z2, z3, z4, z5, z6, z7, z8, z9⟩ := hd
      simp only [Nat.zero_add] at z1 z2 z3 z4 z5 z6 z7 z8 z9
      have hlt2 : (I : Int) < (n : Int) := by omega
      have hltd := decide_eq_true hlt2
      have hltn := decide_eq_true hlt
      have zwj : IntKind.i64.wrap ((I : Int) + 1) = (I : Int) + 1 := by rw [IntKind.wrap_i64]; have := HB2.out; omega
      have HFF : Hid (∀ W, Nw V3 W → inoG X.next 0 X.l = false → P (.returned (.bool false)) W) := fun W hW hb => HF.out W false (HN.out.trans (HR2.out.1.trans hW)) (by unfold inodB; rw [hb]; simp)
      have HV3 := tHid hV3
      unfold nqC at HV3
      have HI3 : Hid (∀ W, Nw V3 W → NqC wr.heap.size 0 y W) := fun W hW => HD.out.nw hW
      clear hIl hy hmy hst hht hwy hry hV3 hN3 hxI HR HM HI HGT HWW HF HN2 HD
      go_upto_region 8 with fail
      rw [HV3.out]
      clear HV3 c0 c1 c2 c3 c4 c5 c6 c7 c8 c9
      by_cases hA : y.x.num ≤ last
      · have HL := tHid (HFF.out V3 (Fr.refl _ _) (by rw [HR2.out.2.1, decide_eq_false (by omega)]; rfl))
        have hAd := decide_eq_true hA
        clear HFF HR2 HIN HI3 zwj
        go_wp2_with fail
        exact HL.out
      · have hAd := decide_eq_false hA
        by_cases hB : X.next ≤ y.x.num
        · have HL := tHid (HFF.out V3 (Fr.refl _ _) (by rw [HR2.out.2.1, decide_eq_false (show ¬ y.x.num < X.next by omega)]; simp))
          have hBd := decide_eq_true hB
          clear HFF HR2 HIN HI3 zwj
          go_wp2_with fail
          exact HL.out
        · have hBd := decide_eq_false hB
          rcases Bool.eq_false_or_eq_true (ndB y.x) with hC | hC
          · rw [hC] at HIN
            obtain ⟨q1, q2, q3, q4, q5, q6⟩ := HR2.out
            have q6 := q6 hC
            have hsum : (H : Int) + (y.d.n : Int) = ((H + y.x.data.length : Nat) : Int) := by omega
            obtain ⟨H2, hH2⟩ : ∃ H2 : Nat, H2 = H + y.x.data.length := ⟨_, rfl⟩
            rw [← hH2] at hsum q3
            have hsw : IntKind.i64.wrap ((H : Int) + (y.d.n : Int)) = (H2 : Int) := by
              have := HB2.out
              have hm1 : I * 4194304 ≤ 4096 * 4194304 := Nat.mul_le_mul_right _ (by omega)
              rw [IntKind.wrap_i64]; omega
            have HNX : Hid (∀ W, Nw V3 W → Nw V W ∧ inoG X.next 0 X.l = inoG X.next y.x.num (X.l.drop (I + 1)) ∧ H2 = heldF (X.l.take (I + 1)) ∧ H2 ≤ (I + 1) * 4194304) := fun W hW => ⟨q1.trans hW, by rw [q2, hC, decide_eq_true (show last < y.x.num by omega), decide_eq_true (show y.x.num < X.next by omega)]; rfl, q3, by omega⟩
            clear HR2 HFF q1 q2 q3 q4 q5 q6 hsum hH2 hC
            go_upto_region 10 with (first | (go_at_call 78; with_reducible refine HIN.out.mono ?_; rintro e w4 ⟨rfl, H4⟩))
            obtain ⟨x0, _, _, _, _, _, _, x7, _, _⟩ := HI3.out w4 H4.out
            have HNX4 := tHid (HNX.out w4 H4.out)
            clear HNX HI3 HIN z0 z1 z2 z3 z4 z5 z6 z7 z8 z9 j1 j2 j3
            go_wp2_with fail
            go_roundg (n - (I + 1))
            case measure => omega
            case rel => exact ⟨I + 1, H2, y.x.num, by omega, by omega, rfl, by first | rfl | (congr 1), by first | rfl | (congr 1), HNX4⟩
          · rw [hC] at HIN
            have HL := tHid (fun W hW => HFF.out W hW (by rw [HR2.out.2.1, hC]; simp))
            clear HFF HR2 HI3 zwj hC
            go_wp2_with (first | (go_at_call 78; with_reducible refine HIN.out.mono ?_; rintro e w4 ⟨rfl, H4⟩))
            exact HL.out _ H4.out
    · have hIe : I = n := by omega
      have hlt2 : ¬ (I : Int) < (n : Int) := by omega
      have hltd := decide_eq_false hlt2
      have hltn := decide_eq_false hlt
      obtain ⟨q1, q2, q3, q4⟩ := HR.out
      obtain ⟨i1, i2, i3⟩ := HI.out wr q1
      have hall : inodB X = decide ((H : Int) ≤ X.bytes) := by
        unfold inodB
        rw [HRT2.out, q2, hIe, ← HLN.out, List.drop_length]
        rw [hIe, ← HLN.out, List.take_length] at q3
        rw [q3]; simp [inoG]
      have HL := tHid (HF.out wr _ (HN.out.trans q1) hall)
      clear HR HF HM HI HGT HWW HN2 HRT2 q1 q2 q3 q4 hall HN hIe HLN HNN HB1 HB2
      go_wp2_with fail
      exact HL.out
end Go.Proofs.YtcogkhcfpgelhabGreat

namespace Go.Proofs.YtcogkhcfpgelhabGreat
open Go.RowKit
set_option linter.unusedVariables false
set_option maxRecDepth 100000
variable {w w' W : World} {X : Nat → Prop}
/-! ### Rows of numbers -/
def RI : RT Int := { enc := fun x => [.int .i64 x], k := 1, T := 3, TS := 83, z := 0, by_ := 8 }
theorem riOk : RI.Ok := by
  refine ⟨fun _ => rfl, by decide, fun x v hv => ?_, Tryz.underlying83, ?_⟩
  · simp only [RI, List.mem_cons, List.mem_nil_iff, or_false] at hv
    rcases hv with rfl; rfl
  · have h : (Tryz.prog.info? 3).map (fun i => (i.zero, i.size, i.bytes)) = some (some (.int .i64 0), 1, 8) := by kernel_rfl
    cases hq : Tryz.prog.info? 3 with
    | none => simp [hq] at h
    | some i => simp [hq] at h; exact ⟨i, _, hq, h.1, h.2.1, h.2.2, rfl⟩
theorem owR_cut {α : Type} {R : RT α} {g c : Nat} {l : List α} {n : Nat} (h : OwR R g (.slice (some ⟨g, 0, none⟩) l.length c) l w) (hn : n ≤ l.length) : OwR R g (.slice (some ⟨g, 0, none⟩) n c) (l.take n) w := by
  obtain ⟨xs, e, h2, h3, h4, h5⟩ := h
  injection e with _ _ e3
  refine ⟨xs, ?_, ?_, ?_, h4, h5⟩
  · rw [e3, List.length_take, Nat.min_eq_left hn]
  · rw [List.length_take, Nat.min_eq_left hn, ← h2, List.take_take, Nat.min_eq_left hn]
  · rw [List.length_take]; omega
/-! ### The inodes of an image by their numbers -/
def getq (l : List Nq) (k : Int) : Option Nq := l.find? (fun y => decide (y.x.num = k))
theorem getq_get {l : List Nq} (k : Int) : get (l.map Nq.x) k = (getq l k).map Nq.x := by
  unfold get getq
  induction l with
  | nil => rfl
  | cons y r ih =>
    rw [List.map_cons, List.find?_cons, List.find?_cons]
    by_cases h : y.x.num = k
    · rw [decide_eq_true h]; rfl
    · rw [decide_eq_false h]; exact ih
theorem getq_some {l : List Nq} {k : Int} {y : Nq} (h : getq l k = some y) : y ∈ l ∧ y.x.num = k := by
  unfold getq at h
  exact ⟨List.mem_of_find?_eq_some h, by simpa using List.find?_some h⟩
def nqV (y : Nq) : Value := .agg (nqC y)
def mN (l : List Nq) (I : Nat) (k : Int) : Option Value := (getq (l.take I) k).map nqV
theorem mN_step {l : List Nq} (hs : Srt (l.map Nq.x)) {I : Nat} {y : Nq} (hy : l[I]? = some y) : (∀ k, mN l (I + 1) k = if k = y.x.num then some (nqV y) else mN l I k) ∧ mN l I y.x.num = none := by
  have hn : getq (l.take I) y.x.num = none := by
    unfold getq
    rw [List.find?_eq_none]
    intro z hz
    simp only [decide_eq_true_eq]
    obtain ⟨j, hj, hzj⟩ := List.getElem_of_mem hz
    rw [List.length_take] at hj
    have hI := (List.getElem?_eq_some_iff.1 hy).1
    rw [Srt, List.pairwise_map] at hs
    have := List.pairwise_iff_getElem.1 hs j I (by omega) hI (by omega)
    rw [List.getElem_take] at hzj
    obtain ⟨_, hyI⟩ := List.getElem?_eq_some_iff.1 hy
    rw [hzj, hyI] at this
    omega
  refine ⟨fun k => ?_, by unfold mN; rw [hn]; rfl⟩
  unfold mN
  have e : getq (l.take (I + 1)) k = (getq (l.take I) k).or (getq [y] k) := by
    unfold getq
    rw [List.take_add_one, hy, List.find?_append]; rfl
  rw [e]
  by_cases hk : k = y.x.num
  · rw [if_pos hk, hk, hn]
    unfold getq
    simp
  · rw [if_neg hk]
    have : getq [y] k = none := by unfold getq; simp; exact fun e => hk e.symm
    rw [this]; simp
/-- What was named, as the map has it. -/
def nN (N : Int → Nat) (k : Int) : Option Int := if N k = 0 then none else some (N k : Int)
/-- How treeCanBe's maps and its list lie in memory. -/
structure TrM (w : World) (nm nb tb : Nat) (vals : List Value) (m : Int → Option Value) (ln : Nat) (v : Value) (todo : List Int) (N : Int → Nat) (cn : Nat) (W : World) : Prop where
  nw : Nw w W
  mp : Mp (MN vals) nm m ln W
  mc : Mp MC nb (nN N) cn W
  td : OwR RI tb v todo W
  lo : w.heap.size ≤ nm ∧ w.heap.size ≤ nb ∧ w.heap.size ≤ tb
  ne : nm ≠ nb
variable {nm nb tb : Nat} {vals : List Value} {m : Int → Option Value} {ln : Nat} {v : Value} {todo : List Int} {N : Int → Nat} {cn : Nat}
theorem TrM.more (h : TrM w nm nb tb vals m ln v todo N cn W) (f : Nw W w') : TrM w nm nb tb vals m ln v todo N cn w' := ⟨h.nw.trans f, h.mp.nw f, h.mc.nw f, h.td.nw f, h.lo, h.ne⟩
theorem TrM.look (h : TrM w nm nb tb vals m ln v todo N cn W) (k : Int) (hk : I64 k) : (Instr.lookup 59 (.map (some nb)) (.int .i64 k) false).run Tryz.prog W = .ok (.int .i64 (N k)) W := by
  have := h.mc.look1 mcOk k hk
  unfold nN at this
  by_cases h0 : N k = 0
  · rw [if_pos h0] at this
    rw [h0]; exact this
  · rw [if_neg h0] at this; exact this
theorem TrM.bump (h : TrM w nm nb tb vals m ln v todo N cn W) (hc : cn ≤ 1000000) (k : Int) (hk : I64 k) : ∃ W', (Instr.mapUpdate 59 (.map (some nb)) (.int .i64 k) (.int .i64 ((N k : Int) + 1))).run Tryz.prog W = .ok () W' ∧ TrM w nm nb tb vals m ln v todo (bumpN N k) (if 0 < N k then cn else cn + 1) W' ∧ Fr (fun i => i = nb) W W' := by
  obtain ⟨W', r1, r2, r3⟩ := h.mc.store mcOk k hk ((N k : Int) + 1) trivial (by omega)
  refine ⟨W', r1, ?_, r3⟩
  have htd : tg W tb = some 3 := ogr_tg (R := RI) (og := some tb) h.td tb rfl
  have hnb := h.mc.tg
  refine ⟨h.nw.then r3 (fun i hi => .inr (by have := h.lo; omega)), h.mp.kept r3 h.ne, ?_, h.td.kept r3 (fun e => ?_), h.lo, h.ne⟩
  · have := r2 (nN (bumpN N k)) (fun x _ => by
      unfold nN bumpN
      by_cases hx : x = k
      · rw [if_pos hx, if_pos hx, if_neg (by omega), hx]; rfl
      · rw [if_neg hx, if_neg hx])
    have e : (nN N k).isSome = decide (0 < N k) := by
      unfold nN
      by_cases h0 : N k = 0
      · rw [if_pos h0, decide_eq_false (by omega)]; rfl
      · rw [if_neg h0, decide_eq_true (by omega)]; rfl
    rw [e] at this
    by_cases h0 : 0 < N k
    · rw [if_pos h0]; rw [decide_eq_true h0] at this; exact this
    · rw [if_neg h0]; rw [decide_eq_false h0] at this; exact this
  · rw [e, hnb] at htd; cases htd
theorem TrM.push {c : Nat} (h : TrM w nm nb tb vals m ln (.slice (some ⟨tb, 0, none⟩) todo.length c) todo N cn W) (hl : todo.length ≤ 1000000) (k : Int) :
    ∃ tb' c' W', (∀ ty, (appV #[83, 83] ty #[.slice (some ⟨tb, 0, none⟩) todo.length c, .slice (some ⟨W.heap.size, 0, none⟩) 1 1]).run Tryz.prog (W.alloc (.cells #[.int .i64 k] 3)) = .ok (.slice (some ⟨tb', 0, none⟩) (todo.length + 1) c') W') ∧ todo.length + 1 ≤ c' ∧ c' < 9223372036854775808 ∧ TrM w nm nb tb' vals m ln (.slice (some ⟨tb', 0, none⟩) (todo.length + 1) c') (todo ++ [k]) N cn W' := by
  have hN : Nw W (W.alloc (.cells (RI.enc k).toArray 3)) := (Fr.refl _ _).alloc _
  have hb := OwR.built riOk W [k] (RI.enc k).toArray (by simp [flatR]) (by simp)
  obtain ⟨v', g', W', k1, k2, k3, k4⟩ := owR_app riOk _ tb _ todo (h.td.nw hN) (.slice (some ⟨W.heap.size, 0, none⟩) 1 1) [k] ((hb.slr riOk).mono (fun _ h => h.elim)) (by simp only [RI, List.length_singleton]; omega) (by simp only [List.length_singleton]; omega)
  obtain ⟨c', e2, q1, q2⟩ := k2.form
  rw [List.length_append, List.length_singleton] at e2 q1
  subst e2
  have hs := h.nw.size
  have hs2 := hN.size
  have htd : tg W tb = some 3 := ogr_tg (R := RI) (og := some tb) h.td tb rfl
  have f3 : Fr (fun i => i = tb) W W' := hN.any.trans k3
  refine ⟨g', c', W', k1, q1, q2, h.nw.then f3 (fun i hi => .inr (by have := h.lo; omega)), h.mp.kept f3 (fun e => ?_), h.mc.kept f3 (fun e => ?_), k2, ⟨h.lo.1, h.lo.2.1, ?_⟩, h.ne⟩
  · rw [← e, h.mp.tg] at htd; cases htd
  · rw [← e, h.mc.tg] at htd; cases htd
  · rcases k4 with e | e
    · rw [e]; exact h.lo.2.2
    · omega
/-- The last one is taken off. -/
theorem TrM.pop {c : Nat} {k : Int} (h : TrM w nm nb tb vals m ln (.slice (some ⟨tb, 0, none⟩) (todo ++ [k]).length c) (todo ++ [k]) N cn W) : W.cell? ⟨tb, todo.length, none⟩ = some (.int .i64 k) ∧ TrM w nm nb tb vals m ln (.slice (some ⟨tb, 0, none⟩) todo.length c) todo N cn W := by
  constructor
  · have := (h.td.cell riOk todo.length 0 k (.int .i64 k) (by simp) rfl).1
    simpa [RI] using this
  · have := owR_cut (n := todo.length) h.td (by simp)
    rw [List.take_left] at this
    exact ⟨h.nw, h.mp, h.mc, this, h.lo, h.ne⟩
theorem lks_bound {l : List Nd} {B : Nat} (h : ∀ x ∈ l, x.ents.length ≤ B) (k : Int) : lks l k ≤ l.length * B + 1 := by
  have h1 : lkS l k ≤ l.length * B := by
    rw [lkS_sum]
    unfold sumF
    induction l with
    | nil => simp
    | cons x r ih =>
      have := ih (fun y hy => h y (List.mem_cons_of_mem _ hy))
      have h2 := h x (List.mem_cons_self ..)
      have h3 : nameN x.ents k ≤ x.ents.length := List.length_filter_le _ _
      rw [List.map_cons, List.sum_cons, List.length_cons, Nat.add_mul, Nat.one_mul]
      omega
  unfold lks
  split <;> omega
end Go.Proofs.YtcogkhcfpgelhabGreat

namespace Go.Proofs.YtcogkhcfpgelhabGreat
open Go.RowKit
set_option linter.unusedVariables false
set_option maxRecDepth 100000
variable {w w' W : World} {X : Nat → Prop}
theorem nqV_vals {l : List Nq} (h : ∀ y ∈ l, 1 ≤ y.x.num) : ∀ i : Nat, (l.map nqV)[i]? ≠ some nodeZ := fun i hi => by
  rw [List.getElem?_map] at hi
  cases hy : l[i]? with
  | none => rw [hy] at hi; cases hi
  | some y =>
    rw [hy] at hi
    have h1 := h y (List.mem_of_getElem? hy)
    simp only [Option.map_some, Option.some.injEq, nqV] at hi
    injection hi with hi
    have := congrArg (fun a : Array Value => a[0]?) hi
    simp at this
    omega
theorem field_ents (y : Nq) (W : World) : (Instr.field 44 (.agg (nqC y)) 5).run Tryz.prog W = .ok (.slice y.e.a y.e.n y.e.c) W := by kernel_rfl
theorem mN_all {l : List Nq} (k : Int) : mN l l.length k = (getq l k).map nqV := by unfold mN; rw [List.take_length]
/-- How the loop over the inodes stands. -/
def TrA (w : World) (nm : Nat) (l : List Nq) (I : Nat) (wr : World) : Prop := Nw w wr ∧ Mp (MN (l.map nqV)) nm (mN l I) I wr
/-- How the loop over what is to come stands. -/
def TrB (w : World) (nm nb : Nat) (l : List Nq) (vis : List Int) (tb c n : Nat) (wr : World) : Prop := ∃ todo ord N ks, Dfs (l.map Nq.x) vis [] todo ord [] N ks ∧ todo.length = n ∧ n ≤ c ∧ c < 9223372036854775808 ∧ TrM w nm nb tb (l.map nqV) (mN l l.length) l.length (.slice (some ⟨tb, 0, none⟩) n c) todo N ks.length wr
/-- How the loop over a directory's entries stands. -/
def TrC (w : World) (nm nb : Nat) (l : List Nq) (vis : List Int) (cur : Int) (y : Nq) (J tb c n : Nat) (wr : World) : Prop := ∃ todo ord N ks, Dfs (l.map Nq.x) vis [cur] todo ord (y.x.ents.take J) N ks ∧ todo.length = n ∧ n ≤ c ∧ c < 9223372036854775808 ∧ TrM w nm nb tb (l.map nqV) (mN l l.length) l.length (.slice (some ⟨tb, 0, none⟩) n c) todo N ks.length wr
section
attribute [local go_sem ↓] appV_fold
set_option maxHeartbeats 32000000 in
theorem tree_any (l : List Nq) (a : Option Addr) (n c : Nat) (hn : n = l.length) (h1 : 1 ≤ n) (h2 : n ≤ 4096) (hb : Bas (l.map Nq.x)) (hm : ImR (.slice a n c) l w) (hw : ∀ y ∈ l, NdW y.x) :
    Calls Tryz.prog 60 #[.slice a n c] w fun e w' => ∃ B, e = .returned (.bool B) ∧ (B = true ↔ Tree (l.map Nq.x)) ∧ Nw w w' := by
  obtain ⟨P, hP⟩ : ∃ P : Ending → World → Prop, P = fun e w' => ∃ B, e = .returned (.bool B) ∧ (B = true ↔ Tree (l.map Nq.x)) ∧ Nw w w' := ⟨_, rfl⟩
  rw [← hP]
  have HF : Hid (∀ V B, Nw w V → (B = true ↔ Tree (l.map Nq.x)) → P (.returned (.bool B)) V) := fun V B hV hB => by rw [hP]; exact ⟨B, rfl, hB, hV⟩
  clear hP
  have hpos : ∀ y ∈ l, 1 ≤ y.x.num := fun y hy => hb.pos y.x (List.mem_map.2 ⟨y, hy, rfl⟩)
  have hmn := mnOk (l.map nqV) (nqV_vals hpos)
  have hm1 : (Instr.makeMap 138 (some (.int .i64 n))).run Tryz.prog w = .ok (.map (some w.heap.size)) (w.alloc (.map #[] 0)) := mkMap_hint hmn n w
  obtain ⟨V, hV⟩ : ∃ V, w.alloc (.map #[] 0) = V := ⟨_, rfl⟩
  obtain ⟨nm, hnm⟩ : ∃ nm, w.heap.size = nm := ⟨_, rfl⟩
  have HA0 : Hid (TrA w nm l 0 V) := ⟨by rw [← hV]; exact (Fr.refl _ _).alloc _, by rw [← hV, ← hnm]; exact (Mp.made w).cong (fun k _ => by simp [mN, getq])⟩
  rw [hV, hnm] at hm1
  have HMN := tHid hmn
  have HNM := tHid hnm
  have HM := tHid hm
  have HB := tHid hb
  have HNN := tHid hn
  have HWW := tHid hw
  have HB1 := tHid h1
  have HB2 := tHid h2
  clear hV hmn hnm hm hb hn hw h1 h2 hpos
  go_enter Tryz.func60, Tryz.ntmps60
  go_wp2_with fail
  clear hm1
  go_loopg [18] n (fun kx i wr => ∃ I : Nat, I ≤ n ∧ n - I ≤ kx ∧ i = .int .i64 I ∧ Hid (TrA w nm l I wr))
  case atStart => exact ⟨0, by omega, by omega, rfl, HA0⟩
  case round =>
    clear HA0
    obtain ⟨I, hI, hkx, rfl, HR⟩ := hrel
    by_cases hlt : I < n
    · have hIl : I < l.length := by rw [← HNN.out]; exact hlt
      obtain ⟨g, o, rfl, hc⟩ := (HM.out.nw HR.out.1).at I hIl
      obtain ⟨y, hy⟩ : ∃ y, l[I] = y := ⟨_, rfl⟩
      rw [hy] at hc
      obtain ⟨c0, c1, c2, c3, c4, c5, c6, c7, c8, c9⟩ := hc
      have hyI : l[I]? = some y := by rw [List.getElem?_eq_getElem hIl, hy]
      have hmy : y ∈ l := by rw [← hy]; exact List.getElem_mem hIl
      obtain ⟨V3, hV3⟩ : ∃ V3, wr.alloc (.cells (nqC y) 44) = V3 := ⟨_, rfl⟩
      have hN3 : Nw wr V3 := by rw [← hV3]; exact (Fr.refl _ _).alloc _
      have hd := NqC.made wr y
      rw [hV3] at hd
      obtain ⟨z0, z1, z2, z3, z4, z5, z6, z7, z8, z9⟩ := hd
      simp only [Nat.zero_add] at z1 z2 z3 z4 z5 z6 z7 z8 z9
      obtain ⟨s1, s2⟩ := mN_step HB.out.srt hyI
      obtain ⟨W3, r1, r2, r3⟩ := (HR.out.2.nw hN3).store HMN.out y.x.num (HWW.out y hmy).n64 (nqV y) ⟨I, by rw [List.getElem?_map, hyI]; rfl⟩ (by have := HB2.out; omega)
      have r1' : (Instr.mapUpdate 138 (.map (some nm)) (.int .i64 y.x.num) (.agg (nqC y))).run Tryz.prog V3 = .ok () W3 := r1
      have HN : Hid (TrA w nm l (I + 1) W3) := by
        refine ⟨(HR.out.1.trans hN3).then r3 (fun i hi => .inr (by have := HNM.out; omega)), ?_⟩
        have := r2 (mN l (I + 1)) (fun x _ => s1 x)
        rw [s2] at this
        exact this
      have hlt2 : (I : Int) < (n : Int) := by omega
      have hltd := decide_eq_true hlt2
      have hltn := decide_eq_true hlt
      have zwj : IntKind.i64.wrap ((I : Int) + 1) = (I : Int) + 1 := by rw [IntKind.wrap_i64]; have := HB2.out; omega
      have HV3 := tHid hV3
      unfold nqC at HV3 r1'
      clear hIl hy hyI hmy hV3 hN3 s1 s2 r1 r2 r3 HR HF HMN
      go_upto_region 5 with fail
      rw [HV3.out]
      clear HV3 c0 c1 c2 c3 c4 c5 c6 c7 c8 c9
      go_wp2_with fail
      go_roundg (n - (I + 1))
      case measure => omega
      case rel => exact ⟨I + 1, by omega, by omega, by first | rfl | (congr 1), HN⟩
    · have hIe : I = n := by omega
      have hlt2 : ¬ (I : Int) < (n : Int) := by omega
      have hltd := decide_eq_false hlt2
      have hltn := decide_eq_false hlt
      have hA := HR.out
      rw [hIe, HNN.out] at hA
      clear HR
      have hm2 : (Instr.makeMap 59 none).run Tryz.prog wr = .ok (.map (some wr.heap.size)) (wr.alloc (.map #[] 0)) := run_makeMap 59 wr
      obtain ⟨W1, s1, s2, s3⟩ := (Mp.made (M := MC) wr).store mcOk 1 ⟨by omega, by omega⟩ 1 trivial (by omega)
      have s1' : (Instr.mapUpdate 59 (.map (some wr.heap.size)) (.int .i64 1) (.int .i64 1)).run Tryz.prog (wr.alloc (.map #[] 0)) = .ok () W1 := s1
      have hS := s2 (nN (fun k => if k = 1 then 1 else 0)) (fun x _ => by unfold nN; by_cases hx : x = 1 <;> simp [hx])
      simp only [Option.isSome_none, Bool.false_eq_true, if_false] at hS
      obtain ⟨nb, hnb⟩ : ∃ nb, wr.heap.size = nb := ⟨_, rfl⟩
      have fW : Nw wr W1 := Fr.then ((Fr.refl _ wr).alloc _) s3 (fun i hi => .inr (by omega))
      have hml := hA.2.lt
      obtain ⟨W2, hW2⟩ : ∃ W2, W1.alloc (.cells #[.int .i64 1] 3) = W2 := ⟨_, rfl⟩
      obtain ⟨tb, htb⟩ : ∃ tb, W1.heap.size = tb := ⟨_, rfl⟩
      have hN2 : Nw W1 W2 := by rw [← hW2]; exact (Fr.refl _ _).alloc _
      have hT := OwR.built riOk W1 [1] #[.int .i64 1] (by simp [flatR, RI]) (by simp)
      have HB0 : Hid (TrB w nm nb l [] tb 1 1 W2) := by
        refine ⟨[1], [1], _, [1], Dfs.start HB.out, rfl, by omega, by omega, ?_⟩
        have hsz := hA.1.size
        have hsz2 := fW.size
        refine ⟨(hA.1.trans fW).trans hN2, (hA.2.nw fW).nw hN2, ?_, ?_, ⟨by have := HNM.out; omega, by omega, by omega⟩, by omega⟩
        · rw [← hnb]; exact hS.nw hN2
        · rw [← hW2, ← htb]; exact hT
      rw [hnb] at hm2 s1'
      clear hA s1 s2 s3 hS fW hml hN2 hT hIe hnb
      go_wp2_with fail
      clear hm2 s1' hW2 htb hltd hltn hlt2
      go_loopg [7] n (fun kx v wr2 => ∃ (vis : List Int) (tb c m : Nat), n - vis.length ≤ kx ∧ v = .slice (some ⟨tb, 0, none⟩) m c ∧ Hid (TrB w nm nb l vis tb c m wr2))
      case atStart => exact ⟨[], tb, 1, 1, by simp, rfl, HB0⟩
      case round =>
        clear HB0
        obtain ⟨vis, tb2, c2, m2, hkx2, rfl, HR⟩ := hrel
        obtain ⟨todo, ord, N, ks, hD, hml, hmc, hc63, hT⟩ := HR.out
        have hfew := hD.few HB.out
        rw [List.length_map, ← HNN.out] at hfew
        by_cases hm0 : 0 < m2
        · have hne : todo ≠ [] := fun e => by rw [e] at hml; simp at hml; omega
          obtain ⟨t0, cur, rfl⟩ : ∃ t0 cur, todo = t0 ++ [cur] := ⟨todo.dropLast, todo.getLast hne, (List.dropLast_concat_getLast hne).symm⟩
          have hmt : m2 = t0.length + 1 := by rw [← hml]; simp
          obtain ⟨m0, hm0e⟩ : ∃ m0, t0.length = m0 := ⟨_, rfl⟩
          rw [← hml] at hT
          obtain ⟨hcell, hTp⟩ := hT.pop
          rw [hm0e] at hcell hTp hmt
          have hDp := hD.pop
          obtain ⟨x, hxm, hxn, hxk⟩ := hD.dir cur (hD.perm.mem_iff.1 (by simp))
          obtain ⟨y, hyl, rfl⟩ := List.mem_map.1 hxm
          have hg1 : get (l.map Nq.x) cur = some y.x := by rw [← hxn]; exact get_mem HB.out.srt hxm
          have hgq : getq l cur = some y := by
            have := getq_get (l := l) cur
            rw [hg1] at this
            cases hq : getq l cur with
            | none => rw [hq] at this; cases this
            | some z =>
              rw [hq] at this
              simp only [Option.map_some, Option.some.injEq] at this
              obtain ⟨hz1, hz2⟩ := getq_some hq
              obtain ⟨i, hi, e1⟩ := List.getElem_of_mem hz1
              obtain ⟨j, hj, e2⟩ := List.getElem_of_mem hyl
              have hs := HB.out.srt
              rw [List.pairwise_map] at hs
              have hs := List.pairwise_iff_getElem.1 hs
              rcases Nat.lt_trichotomy i j with h3 | h3 | h3
              · have := hs i j hi hj h3
                rw [e1, e2, hz2, hxn] at this; omega
              · subst h3; rw [e1] at e2; rw [e2]
              · have := hs j i hj hi h3
                rw [e1, e2, hz2, hxn] at this; omega
          have hwy := HWW.out y hyl
          have hc64 : I64 cur := by rw [← hxn]; exact hwy.n64
          have hlk : (Instr.lookup 138 (.map (some nm)) (.int .i64 cur) false).run Tryz.prog wr = .ok (.agg (nqC y)) wr := by
            have := hTp.mp.look1 HMN.out cur hc64
            rw [mN_all, hgq] at this
            exact this
          have hfe := field_ents y wr
          have hen := (HM.out.nw hTp.nw).2 y hyl
          have hen1 := hen.en
          have HTC : Hid (TrC w nm nb l vis cur y 0 tb2 c2 m0 wr) := ⟨t0, ord, N, ks, by rw [List.take_zero]; exact hDp, hm0e, by omega, hc63, hTp⟩
          have hgt : decide ((0 : Int) < (m2 : Int)) = true := decide_eq_true (by omega)
          have hgt2 : (0 : Int) < (m2 : Int) := by omega
          have hgn : decide (0 < m2) = true := decide_eq_true hm0
          have hsub : IntKind.i64.wrap ((m2 : Int) - 1) = (m0 : Int) := by rw [IntKind.wrap_i64]; have := HB2.out; omega
          have hlt0 : (m0 : Int) < (m2 : Int) := by omega
          have hlec : (m0 : Int) ≤ (c2 : Int) := by omega
          have hlecn : m0 ≤ c2 := by omega
          have hlt0n : m0 < m2 := by omega
          have HG1 := tHid hg1
          have HYL := tHid hyl
          have HVL : Hid (vis.length < n) := by show vis.length < n; have h5 := hfew.2.1; rw [List.length_append] at h5; simp at h5; omega
          have HE1 := tHid hen1
          have HWY := tHid hwy
          unfold nqC at hlk hfe
          clear HR hD hml hmc hc63 hT hfew hne hmt hm0e hTp hDp hxm hxn hxk hg1 hgq hwy hc64 hen hen1 hyl
          go_wp2_with fail
          clear hlk hfe hcell hgt hgt2 hgn hsub hlt0 hlec hlecn hlt0n hm0
          go_loopg [7, 49] y.e.n (fun kx v i wr3 => ∃ (J tb c m : Nat), J ≤ y.e.n ∧ y.e.n - J ≤ kx ∧ v = .slice (some ⟨tb, 0, none⟩) m c ∧ i = .int .i64 J ∧ Hid (TrC w nm nb l vis cur y J tb c m wr3))
          case atStart => exact ⟨0, tb2, c2, m0, by omega, by omega, rfl, rfl, HTC⟩
          case round =>
            clear HTC
            obtain ⟨J, tb3, c3, m3, hJ, hkx3, rfl, rfl, HR⟩ := hrel
            obtain ⟨todo, ord, N, ks, hD, hml, hmc, hc63, hT⟩ := HR.out
            have hfew := hD.few HB.out
            rw [List.length_map, ← HNN.out] at hfew
            by_cases hlt : J < y.e.n
            · have hJl : J < y.x.ents.length := by rw [← HE1.out.1]; exact hlt
              obtain ⟨g, o, hea, _, hc⟩ := ((HM.out.nw hT.nw).2 y HYL.out).2.at J (y.x.ents[J]) (List.getElem?_eq_getElem hJl)
              have c0 : wr.cell? ⟨g, o + J * 2, none⟩ = some (.string (mk (y.x.ents[J]).1)) := hc 0 _ rfl
              have c1 : wr.cell? ⟨g, o + J * 2 + 1, none⟩ = some (.int .i64 (y.x.ents[J]).2) := hc 1 _ rfl
              obtain ⟨e, he⟩ : ∃ e, y.x.ents[J] = e := ⟨_, rfl⟩
              have hem : e ∈ y.x.ents := by rw [← he]; exact List.getElem_mem hJl
              rw [he] at c0 c1
              have hk64 : I64 e.2 := HWY.out.e64 e hem
              have hsp : y.x.ents = y.x.ents.take J ++ e :: y.x.ents.drop (J + 1) := by
                rw [← he, ← List.drop_eq_getElem_cons hJl, List.take_append_drop]
              have htk : y.x.ents.take (J + 1) = y.x.ents.take J ++ [e] := by rw [List.take_add_one, List.getElem?_eq_getElem hJl, he]; rfl
              obtain ⟨V4, hV4⟩ : ∃ V4, wr.alloc (.cells #[.string (mk e.1), .int .i64 e.2] 57) = V4 := ⟨_, rfl⟩
              have hN4 : Nw wr V4 := by rw [← hV4]; exact (Fr.refl _ _).alloc _
              have q4 : V4.cell? ⟨wr.heap.size, 1, none⟩ = some (.int .i64 e.2) := by rw [← hV4]; exact (rc (nh wr _) 1 _ rfl).1
              have hT4 := hT.more hN4
              have hlk := hT4.mp.look HMN.out e.2 hk64
              rw [mN_all] at hlk
              have hNle : N e.2 ≤ 4096 * 1000000000 + 1 := by
                have h5 := hD.le HB.out HG1.out _ hsp e.2
                have h6 := lks_bound (l := l.map Nq.x) (B := 1000000000) (fun x hx => by
                  obtain ⟨z, hz, rfl⟩ := List.mem_map.1 hx
                  exact (HWW.out z hz).el) e.2
                rw [List.length_map, ← HNN.out] at h6
                have h7 : n * 1000000000 ≤ 4096 * 1000000000 := Nat.mul_le_mul_right _ HB2.out
                omega
              have hwrap : IntKind.i64.wrap ((N e.2 : Int) + 1) = (N e.2 : Int) + 1 := by rw [IntKind.wrap_i64]; omega
              have hlt2 : (J : Int) < (y.e.n : Int) := by omega
              have hltd := decide_eq_true hlt2
              have hltn := decide_eq_true hlt
              have zwj : IntKind.i64.wrap ((J : Int) + 1) = (J : Int) + 1 := by rw [IntKind.wrap_i64]; have := HE1.out.2.1; have := HE1.out.2.2; omega
              have hnbl := hT.mc.lt
              have HMT : Hid (y.x ∈ l.map Nq.x) := List.mem_map.2 ⟨y, HYL.out, rfl⟩
              cases hgq : getq l e.2 with
              | none =>
                have hgn : get (l.map Nq.x) e.2 = none := by rw [getq_get, hgq]; rfl
                have hnt := Dfs.missing HMT.out hem hgn
                rw [hgq] at hlk
                have hlk' : (Instr.lookup 138 (.map (some nm)) (.int .i64 e.2) true).run Tryz.prog V4 = .ok (.tuple #[.agg #[.int .i64 0, .int .i64 0, .int .u32 0, .int .u32 0, .int .u32 0, .int .i64 0, .int .i32 0, .slice none 0 0, .string ⟨#[]⟩, .slice none 0 0], .bool false]) V4 := hlk
                obtain ⟨V5, hV5⟩ : ∃ V5, V4.alloc (.cells #[.int .i64 0, .int .i64 0, .int .u32 0, .int .u32 0, .int .u32 0, .int .i64 0, .int .i32 0, .slice none 0 0, .string ⟨#[]⟩, .slice none 0 0] 44) = V5 := ⟨_, rfl⟩
                have hN5 : Nw V4 V5 := by rw [← hV5]; exact (Fr.refl _ _).alloc _
                have q5 := hN5.cell q4
                have hT5 := hT4.more hN5
                have l5 := hT5.look e.2 hk64
                obtain ⟨W6, b1, b2, b3⟩ := hT5.bump (by have := HB2.out; omega) e.2 hk64
                have HL := tHid (HF.out W6 false b2.nw ⟨fun h => (by cases h), fun h => absurd h hnt⟩)
                have HV4 := tHid hV4
                have HV5 := tHid hV5
                have HEA := tHid hea
                clear hV4 hV5 hN4 hN5 hT hT4 hT5 b2 b3 hlk HR hD hml hmc hc63 hfew hJl hem he hsp htk hgn hnt hc HF HMT hNle hnbl hea hgq
                rw [HEA.out]
                go_upto_region 15 with fail
                rw [HV4.out]
                clear HV4 c0 c1
                go_upto_region 16 with fail
                rw [HV5.out]
                clear HV5
                go_wp2_with fail
                exact HL.out
              | some y2 =>
                have hgn : get (l.map Nq.x) e.2 = some y2.x := by rw [getq_get, hgq]; rfl
                rw [hgq] at hlk
                have hlk' : (Instr.lookup 138 (.map (some nm)) (.int .i64 e.2) true).run Tryz.prog V4 = .ok (.tuple #[.agg (nqC y2), .bool true]) V4 := hlk
                obtain ⟨V5, hV5⟩ : ∃ V5, V4.alloc (.cells (nqC y2) 44) = V5 := ⟨_, rfl⟩
                have hN5 : Nw V4 V5 := by rw [← hV5]; exact (Fr.refl _ _).alloc _
                have q5 := hN5.cell q4
                have p5 : V5.cell? ⟨V4.heap.size, 1, none⟩ = some (.int .i64 y2.x.kind) := by rw [← hV5]; exact (rc (nh V4 _) 1 _ rfl).1
                have hT5 := hT4.more hN5
                have l5 := hT5.look e.2 hk64
                obtain ⟨W6, b1, b2, b3⟩ := hT5.bump (by have := HB2.out; omega) e.2 hk64
                have hs4 := hN4.size
                have q6 := b3.cellv q5 (show ¬ wr.heap.size = nb by omega)
                have p6 := b3.cellv p5 (show ¬ V4.heap.size = nb by omega)
                have l6 := b2.look e.2 hk64
                have hbn : bumpN N e.2 e.2 = N e.2 + 1 := by unfold bumpN; rw [if_pos rfl]
                rw [hbn] at l6
                have hcast : ((N e.2 + 1 : Nat) : Int) = (N e.2 : Int) + 1 := by omega
                rw [hcast] at l6
                have HV4 := tHid hV4
                have HV5 := tHid hV5
                have HEA := tHid hea
                unfold nqC at hlk' HV5
                by_cases hk1 : y2.x.kind = 1
                · by_cases h0 : 0 < N e.2
                  · have hnt := hD.twice HB.out HG1.out hsp hgn hk1 h0
                    have HL := tHid (HF.out W6 false b2.nw ⟨fun h => (by cases h), fun h => absurd h hnt⟩)
                    have hgd : decide ((1 : Int) < (N e.2 : Int) + 1) = true := decide_eq_true (by omega)
                    have hgp : (1 : Int) < (N e.2 : Int) + 1 := by omega
                    have HK1 := tHid hk1
                    clear hk1 hV4 hV5 hN4 hN5 hT hT4 hT5 b2 b3 hlk HR hD hml hmc hc63 hfew hJl hem he hsp htk hgn hnt hc HF HMT hNle hnbl hea hgq hs4 hbn hcast
                    rw [HEA.out]
                    go_upto_region 15 with fail
                    rw [HV4.out]
                    clear HV4 c0 c1
                    go_upto_region 16 with fail
                    rw [HV5.out]
                    clear HV5
                    have hk1 := HK1.out
                    clear HK1
                    go_wp2_with fail
                    exact HL.out
                  · have h00 : N e.2 = 0 := by omega
                    have hDn := hD.ddir HB.out hgn hk1 h00
                    rw [← htk] at hDn
                    rw [if_neg h0] at b2
                    rw [← hml] at b2
                    obtain ⟨tb7, c7, W7, a1, a2, a3, a4⟩ := b2.push (by have := HB2.out; have := hfew.2.1; omega) e.2
                    rw [hml] at a1 a2 a4
                    have HNX : Hid (TrC w nm nb l vis cur y (J + 1) tb7 c7 (m3 + 1) W7) := ⟨_, _, _, _, hDn, by rw [List.length_append, hml]; rfl, a2, a3, by rw [List.length_append]; exact a4⟩
                    have hgd : decide ((1 : Int) < (N e.2 : Int) + 1) = false := decide_eq_false (by omega)
                    have hgp : ¬ (1 : Int) < (N e.2 : Int) + 1 := by omega
                    have HK1 := tHid hk1
                    clear hk1 hV4 hV5 hN4 hN5 hT hT4 hT5 b2 b3 hlk HR hD hml hmc hc63 hfew hJl hem he hsp htk hgn hc HF HMT hNle hnbl hea hgq hs4 hbn hcast hDn h00 h0 a2 a3 a4
                    rw [HEA.out]
                    go_upto_region 15 with fail
                    rw [HV4.out]
                    clear HV4 c0 c1
                    go_upto_region 16 with fail
                    rw [HV5.out]
                    clear HV5
                    have hk1 := HK1.out
                    clear HK1
                    go_wp2_with fail
                    rw [← HEA.out]
                    go_roundg (y.e.n - (J + 1))
                    case measure => omega
                    case rel => exact ⟨J + 1, tb7, c7, m3 + 1, by omega, by omega, rfl, by first | rfl | (congr 1), HNX⟩
                · have hDn := hD.file HB.out hgn hk1
                  rw [← htk] at hDn
                  have HNX : Hid (TrC w nm nb l vis cur y (J + 1) tb3 c3 m3 W6) := by
                    refine ⟨_, _, _, _, hDn, hml, hmc, hc63, ?_⟩
                    by_cases h0 : 0 < N e.2
                    · rw [if_pos h0] at b2 ⊢; exact b2
                    · rw [if_neg h0] at b2 ⊢
                      rw [List.length_append]; exact b2
                  have hkd := decide_eq_false hk1
                  clear hV4 hV5 hN4 hN5 hT hT4 hT5 b2 b3 hlk HR hD hml hmc hc63 hfew hJl hem he hsp htk hgn hc HF HMT hNle hnbl hea hgq hs4 hbn hcast hDn
                  rw [HEA.out]
                  go_upto_region 15 with fail
                  rw [HV4.out]
                  clear HV4 c0 c1
                  go_upto_region 16 with fail
                  rw [HV5.out]
                  clear HV5
                  go_wp2_with fail
                  rw [← HEA.out]
                  go_roundg (y.e.n - (J + 1))
                  case measure => omega
                  case rel => exact ⟨J + 1, tb3, c3, m3, by omega, by omega, rfl, by first | rfl | (congr 1), HNX⟩
            · have hJe : J = y.e.n := by omega
              have hlt2 : ¬ (J : Int) < (y.e.n : Int) := by omega
              have hltd := decide_eq_false hlt2
              have hltn := decide_eq_false hlt
              rw [hJe, HE1.out.1, List.take_length] at hD
              have hDn := Dfs.next HG1.out HB.out hD
              have HNX : Hid (TrB w nm nb l (vis ++ [cur]) tb3 c3 m3 wr) := ⟨todo, ord, N, ks, hDn, hml, hmc, hc63, hT⟩
              clear HR hD hDn hml hmc hc63 hT hfew hJe HF HMN
              go_wp2_with fail
              have hvl := HVL.out
              go_roundg (n - (vis.length + 1))
              case measure => omega
              case rel => exact ⟨vis ++ [cur], tb3, c3, m3, by rw [List.length_append]; simp, rfl, HNX⟩
        · have hm00 : m2 = 0 := by omega
          subst hm00
          have ht0 : todo = [] := List.eq_nil_of_length_eq_zero hml
          subst ht0
          have hdone := hD.done HB.out
          rw [List.length_map, ← HNN.out] at hdone
          have hlen : ∀ ty, (Builtin.len_ #[59] ty #[.map (some nb)]).run Tryz.prog wr = .ok (.int .i64 ks.length) wr := hT.mc.len mcOk
          have HL := tHid (HF.out wr (decide ((ks.length : Int) = (n : Int))) hT.nw (by rw [← hdone, decide_eq_true_eq]; omega))
          clear HR hD hml hmc hc63 hT hfew hdone HF HMN
          generalize ks.length = kl at *
          go_wp2_with fail
          exact HL.out
end
end Go.Proofs.YtcogkhcfpgelhabGreat

namespace Go.Proofs.YtcogkhcfpgelhabGreat
open Go.RowKit
set_option linter.unusedVariables false
set_option linter.unusedSimpArgs false
set_option maxRecDepth 100000
variable {w w' W : World} {X : Nat → Prop}
set_option maxHeartbeats 16000000 in
theorem bounds_all (nodes bytes next : Int) (a : Option Addr) (n c : Nat) (w : World) : Calls Tryz.prog 58 #[.agg #[.int .i64 nodes, .int .i64 bytes, .int .i64 next, .slice a n c]] w fun e w' => e = .returned (.bool (decide (1 ≤ nodes) && decide (nodes ≤ 4096) && decide (0 ≤ bytes) && decide (bytes ≤ 4194304) && decide (1 < next) && decide (next ≤ 1099511627776) && decide ((1 : Int) ≤ (n : Int)) && decide ((n : Int) ≤ nodes))) ∧ Nw w w' := by
  obtain ⟨P, hP⟩ : ∃ P : Ending → World → Prop, P = fun e w' => e = .returned (.bool (decide (1 ≤ nodes) && decide (nodes ≤ 4096) && decide (0 ≤ bytes) && decide (bytes ≤ 4194304) && decide (1 < next) && decide (next ≤ 1099511627776) && decide ((1 : Int) ≤ (n : Int)) && decide ((n : Int) ≤ nodes))) ∧ Nw w w' := ⟨_, rfl⟩
  rw [← hP]
  have HF : Hid (∀ V, Nw w V → P (.returned (.bool (decide (1 ≤ nodes) && decide (nodes ≤ 4096) && decide (0 ≤ bytes) && decide (bytes ≤ 4194304) && decide (1 < next) && decide (next ≤ 1099511627776) && decide ((1 : Int) ≤ (n : Int)) && decide ((n : Int) ≤ nodes)))) V) := fun V hV => by rw [hP]; exact ⟨rfl, hV⟩
  clear hP
  by_cases h1 : 1 ≤ nodes
  rotate_left
  · skip
    have d1 := decide_eq_false h1
    rw [decide_eq_false h1] at HF
    simp only [Bool.and_false, Bool.false_and, Bool.and_self] at HF
    go_enter Tryz.func58, Tryz.ntmps58
    go_wp2_with fail
    exact HF.out _ ((Fr.refl _ _).alloc _)
  by_cases h2 : nodes ≤ 4096
  rotate_left
  · skip
    have d1 := decide_eq_true h1
    have d2 := decide_eq_false h2
    rw [decide_eq_true h1, decide_eq_false h2] at HF
    simp only [Bool.and_false, Bool.false_and, Bool.and_self] at HF
    go_enter Tryz.func58, Tryz.ntmps58
    go_wp2_with fail
    exact HF.out _ ((Fr.refl _ _).alloc _)
  by_cases h3 : 0 ≤ bytes
  rotate_left
  · skip
    have d1 := decide_eq_true h1
    have d2 := decide_eq_true h2
    have d3 := decide_eq_false h3
    rw [decide_eq_true h1, decide_eq_true h2, decide_eq_false h3] at HF
    simp only [Bool.and_false, Bool.false_and, Bool.and_self] at HF
    go_enter Tryz.func58, Tryz.ntmps58
    go_wp2_with fail
    exact HF.out _ ((Fr.refl _ _).alloc _)
  by_cases h4 : bytes ≤ 4194304
  rotate_left
  · skip
    have d1 := decide_eq_true h1
    have d2 := decide_eq_true h2
    have d3 := decide_eq_true h3
    have d4 := decide_eq_false h4
    rw [decide_eq_true h1, decide_eq_true h2, decide_eq_true h3, decide_eq_false h4] at HF
    simp only [Bool.and_false, Bool.false_and, Bool.and_self] at HF
    go_enter Tryz.func58, Tryz.ntmps58
    go_wp2_with fail
    exact HF.out _ ((Fr.refl _ _).alloc _)
  by_cases h5 : 1 < next
  rotate_left
  · skip
    have d1 := decide_eq_true h1
    have d2 := decide_eq_true h2
    have d3 := decide_eq_true h3
    have d4 := decide_eq_true h4
    have d5 := decide_eq_false h5
    rw [decide_eq_true h1, decide_eq_true h2, decide_eq_true h3, decide_eq_true h4, decide_eq_false h5] at HF
    simp only [Bool.and_false, Bool.false_and, Bool.and_self] at HF
    go_enter Tryz.func58, Tryz.ntmps58
    go_wp2_with fail
    exact HF.out _ ((Fr.refl _ _).alloc _)
  by_cases h6 : next ≤ 1099511627776
  rotate_left
  · skip
    have d1 := decide_eq_true h1
    have d2 := decide_eq_true h2
    have d3 := decide_eq_true h3
    have d4 := decide_eq_true h4
    have d5 := decide_eq_true h5
    have d6 := decide_eq_false h6
    rw [decide_eq_true h1, decide_eq_true h2, decide_eq_true h3, decide_eq_true h4, decide_eq_true h5, decide_eq_false h6] at HF
    simp only [Bool.and_false, Bool.false_and, Bool.and_self] at HF
    go_enter Tryz.func58, Tryz.ntmps58
    go_wp2_with fail
    exact HF.out _ ((Fr.refl _ _).alloc _)
  by_cases h7 : (1 : Int) ≤ (n : Int)
  rotate_left
  · skip
    have d1 := decide_eq_true h1
    have d2 := decide_eq_true h2
    have d3 := decide_eq_true h3
    have d4 := decide_eq_true h4
    have d5 := decide_eq_true h5
    have d6 := decide_eq_true h6
    have d7 := decide_eq_false h7
    rw [decide_eq_true h1, decide_eq_true h2, decide_eq_true h3, decide_eq_true h4, decide_eq_true h5, decide_eq_true h6, decide_eq_false h7] at HF
    simp only [Bool.and_false, Bool.false_and, Bool.and_self] at HF
    go_enter Tryz.func58, Tryz.ntmps58
    go_wp2_with fail
    exact HF.out _ ((Fr.refl _ _).alloc _)
  by_cases h8 : (n : Int) ≤ nodes
  rotate_left
  · skip
    have d1 := decide_eq_true h1
    have d2 := decide_eq_true h2
    have d3 := decide_eq_true h3
    have d4 := decide_eq_true h4
    have d5 := decide_eq_true h5
    have d6 := decide_eq_true h6
    have d7 := decide_eq_true h7
    have d8 := decide_eq_false h8
    rw [decide_eq_true h1, decide_eq_true h2, decide_eq_true h3, decide_eq_true h4, decide_eq_true h5, decide_eq_true h6, decide_eq_true h7, decide_eq_false h8] at HF
    simp only [Bool.and_false, Bool.false_and, Bool.and_self] at HF
    go_enter Tryz.func58, Tryz.ntmps58
    go_wp2_with fail
    exact HF.out _ ((Fr.refl _ _).alloc _)
  have d1 := decide_eq_true h1
  have d2 := decide_eq_true h2
  have d3 := decide_eq_true h3
  have d4 := decide_eq_true h4
  have d5 := decide_eq_true h5
  have d6 := decide_eq_true h6
  have d7 := decide_eq_true h7
  have d8 := decide_eq_true h8
  rw [decide_eq_true h1, decide_eq_true h2, decide_eq_true h3, decide_eq_true h4, decide_eq_true h5, decide_eq_true h6, decide_eq_true h7, decide_eq_true h8] at HF
  simp only [Bool.and_self] at HF
  go_enter Tryz.func58, Tryz.ntmps58
  go_wp2_with fail
  exact HF.out _ ((Fr.refl _ _).alloc _)
theorem bounds_any (X : Im) (a : Option Addr) (n c : Nat) (hn : n = X.l.length) (w : World) : Calls Tryz.prog 58 #[imV X (.slice a n c)] w fun e w' => e = .returned (.bool (bndB X)) ∧ Nw w w' := by
  refine Calls.mono (bounds_all X.nodes X.bytes X.next a n c w) ?_
  rintro e w' ⟨rfl, hN⟩
  refine ⟨?_, hN⟩
  have e7 : decide ((1 : Int) ≤ (n : Int)) = decide (1 ≤ X.l.length) := by rw [← hn]; congr 1; exact propext ⟨fun h => by omega, fun h => by omega⟩
  unfold bndB
  rw [e7, hn]
set_option maxHeartbeats 8000000 in
theorem valid_any (X : Im) (l : List Nq) (a : Option Addr) (n c : Nat) (hl : l.map Nq.x = X.l) (hn : n = l.length) (hm : ImR (.slice a n c) l w) (hw : ∀ y ∈ l, NdW y.x) :
    Calls Tryz.prog 32 #[imV X (.slice a n c)] w fun e w' => ∃ B, e = .returned (.bool B) ∧ (B = true ↔ WF X) ∧ Nw w w' := by
  obtain ⟨P, hP⟩ : ∃ P : Ending → World → Prop, P = fun e w' => ∃ B, e = .returned (.bool B) ∧ (B = true ↔ WF X) ∧ Nw w w' := ⟨_, rfl⟩
  rw [← hP]
  have HF : Hid (∀ V B, Nw w V → (B = true ↔ WF X) → P (.returned (.bool B)) V) := fun V B hV hB => by rw [hP]; exact ⟨B, rfl, hB, hV⟩
  clear hP
  obtain ⟨V, hV⟩ : ∃ V, w.alloc (.cells #[.int .i64 X.nodes, .int .i64 X.bytes, .int .i64 X.next, .slice a n c] 24) = V := ⟨_, rfl⟩
  have hN : Nw w V := by rw [← hV]; exact (Fr.refl _ _).alloc _
  have HI : Hid (∀ W, Nw V W → W.cell? ⟨w.heap.size, 0, none⟩ = some (.int .i64 X.nodes) ∧ W.cell? ⟨w.heap.size, 1, none⟩ = some (.int .i64 X.bytes) ∧ W.cell? ⟨w.heap.size, 2, none⟩ = some (.int .i64 X.next) ∧ W.cell? ⟨w.heap.size, 3, none⟩ = some (.slice a n c)) := fun W hW => ⟨hW.cell (by rw [← hV]; exact (rc (nh w _) 0 _ rfl).1), hW.cell (by rw [← hV]; exact (rc (nh w _) 1 _ rfl).1), hW.cell (by rw [← hV]; exact (rc (nh w _) 2 _ rfl).1), hW.cell (by rw [← hV]; exact (rc (nh w _) 3 _ rfl).1)⟩
  have hlen : n = X.l.length := by rw [← hl, List.length_map, hn]
  have HB : Hid (Calls Tryz.prog 58 #[.agg #[.int .i64 X.nodes, .int .i64 X.bytes, .int .i64 X.next, .slice a n c]] V fun e w' => e = .returned (.bool (bndB X)) ∧ Hid (Nw V w')) := bounds_any X a n c hlen V
  have HVI := valid_iff X
  have HV := tHid hV
  have HNW := tHid hN
  have hmV := hm.nw hN
  clear hV hN hm
  obtain ⟨i0, i1, i2, i3⟩ := HI.out V (Fr.refl _ _)
  rcases Bool.eq_false_or_eq_true (bndB X) with hb | hb
  · have hb12 : 1 ≤ n ∧ n ≤ 4096 := by
      have h := hb
      unfold bndB at h
      simp only [Bool.and_eq_true, decide_eq_true_eq] at h
      rw [hlen]; omega
    have HIN : Hid (∀ W, Hid (Nw V W) → Calls Tryz.prog 59 #[.agg #[.int .i64 X.nodes, .int .i64 X.bytes, .int .i64 X.next, .slice a n c]] W fun e w' => e = .returned (.bool (inodB X)) ∧ Hid (Nw V w')) := fun W hW => Calls.mono (inodes_any X l a n c hl hn hb12.1 hb12.2 (hmV.nw hW.out) hw) (fun e w' h => ⟨h.1, hW.out.trans h.2⟩)
    rcases Bool.eq_false_or_eq_true (inodB X) with hi | hi
    · have hbas : Bas (l.map Nq.x) := by
        have h := hi
        unfold inodB at h
        simp only [Bool.and_eq_true, decide_eq_true_eq] at h
        rw [hl]; exact bas_of h.1.1 h.1.2
      have HT : Hid (∀ W, Hid (Nw V W) → Calls Tryz.prog 60 #[.slice a n c] W fun e w' => ∃ B, e = .returned (.bool B) ∧ Hid ((B = true ↔ WF X) ∧ Nw V w')) := fun W hW => Calls.mono (tree_any l a n c hn hb12.1 hb12.2 hbas (hmV.nw hW.out) hw) (fun e w' h => by
        obtain ⟨B, rfl, h2, h3⟩ := h
        refine ⟨B, rfl, ?_, hW.out.trans h3⟩
        rw [h2, hl, ← HVI]
        exact ⟨fun h => ⟨hb, hi, h⟩, fun h => h.2.2⟩)
      rw [hi] at HIN
      rw [hb] at HB
      clear hb hi hb12 hbas HVI hl hn hw hlen hmV
      have HB1 : Hid (Calls Tryz.prog 58 #[.agg #[.int .i64 X.nodes, .int .i64 X.bytes, .int .i64 X.next, .slice a n c]] V fun e w' => e = .returned (.bool true) ∧ Hid (Nw V w') ∧ w'.cell? ⟨w.heap.size, 0, none⟩ = some (.int .i64 X.nodes) ∧ w'.cell? ⟨w.heap.size, 1, none⟩ = some (.int .i64 X.bytes) ∧ w'.cell? ⟨w.heap.size, 2, none⟩ = some (.int .i64 X.next) ∧ w'.cell? ⟨w.heap.size, 3, none⟩ = some (.slice a n c)) := HB.out.mono (fun e w' hh => ⟨hh.1, hh.2, HI.out w' hh.2.out⟩)
      have HIN1 : Hid (∀ W, Hid (Nw V W) → Calls Tryz.prog 59 #[.agg #[.int .i64 X.nodes, .int .i64 X.bytes, .int .i64 X.next, .slice a n c]] W fun e w' => e = .returned (.bool true) ∧ Hid (Nw V w') ∧ w'.cell? ⟨w.heap.size, 3, none⟩ = some (.slice a n c)) := fun W hW => (HIN.out W hW).mono (fun e w' hh => ⟨hh.1, hh.2, (HI.out w' hh.2.out).2.2.2⟩)
      clear HB HIN HI
      go_enter Tryz.func32, Tryz.ntmps32
      go_upto_region 1 with fail
      rw [HV.out]
      clear HV
      go_wp2_with (first | (go_at_call 58; with_reducible refine HB1.out.mono ?_; rintro e w2 ⟨rfl, H2, j0, j1, j2, j3⟩) | (go_at_call 59; with_reducible refine (HIN1.out _ H2).mono ?_; rintro e w3 ⟨rfl, H3, k3⟩) | (go_at_call 60; with_reducible refine (HT.out _ H3).mono ?_; rintro e w4 ⟨B, rfl, H4⟩))
      exact HF.out _ _ (HNW.out.trans H4.out.2) H4.out.1
    · rw [hi] at HIN
      rw [hb] at HB
      have HL : Hid (∀ W, Hid (Nw V W) → P (.returned (.bool false)) W) := fun W hW => HF.out W false (HNW.out.trans hW.out) ⟨fun h => (by cases h), fun h => by have := (HVI.2 h).2.1; rw [hi] at this; cases this⟩
      clear hb hi hb12 HVI hl hn hw hlen hmV HF
      have HB1 : Hid (Calls Tryz.prog 58 #[.agg #[.int .i64 X.nodes, .int .i64 X.bytes, .int .i64 X.next, .slice a n c]] V fun e w' => e = .returned (.bool true) ∧ Hid (Nw V w') ∧ w'.cell? ⟨w.heap.size, 0, none⟩ = some (.int .i64 X.nodes) ∧ w'.cell? ⟨w.heap.size, 1, none⟩ = some (.int .i64 X.bytes) ∧ w'.cell? ⟨w.heap.size, 2, none⟩ = some (.int .i64 X.next) ∧ w'.cell? ⟨w.heap.size, 3, none⟩ = some (.slice a n c)) := HB.out.mono (fun e w' hh => ⟨hh.1, hh.2, HI.out w' hh.2.out⟩)
      clear HB HI
      go_enter Tryz.func32, Tryz.ntmps32
      go_upto_region 1 with fail
      rw [HV.out]
      clear HV
      go_wp2_with (first | (go_at_call 58; with_reducible refine HB1.out.mono ?_; rintro e w2 ⟨rfl, H2, j0, j1, j2, j3⟩) | (go_at_call 59; with_reducible refine (HIN.out _ H2).mono ?_; rintro e w3 ⟨rfl, H3⟩))
      exact HL.out _ H3
  · rw [hb] at HB
    have HL : Hid (∀ W, Hid (Nw V W) → P (.returned (.bool false)) W) := fun W hW => HF.out W false (HNW.out.trans hW.out) ⟨fun h => (by cases h), fun h => by have := (HVI.2 h).1; rw [hb] at this; cases this⟩
    clear hb HVI hl hn hw hlen hmV HF HI
    go_enter Tryz.func32, Tryz.ntmps32
    go_upto_region 1 with fail
    rw [HV.out]
    clear HV
    go_wp2_with (first | (go_at_call 58; with_reducible refine HB.out.mono ?_; rintro e w2 ⟨rfl, H2⟩))
    exact HL.out _ H2
end Go.Proofs.YtcogkhcfpgelhabGreat

namespace Go.Proofs.YtcogkhcfpgelhabGreat
open Go.RowKit
set_option linter.unusedVariables false
set_option maxRecDepth 100000
/-! ### A file system that is being built: directories may have no map of entries yet -/
structure NdG (b : Bool) (y : Lay) (p : Pn) (w : World) : Prop where
  blk : ∃ dv ev, w.heap[y.ib]? = some (.cells (ndC p dv ev) 91) ∧ OgB y.od dv p.data w ∧ (b = true → ev = .map (some y.eb) ∧ Mp ME y.eb p.ents p.ne w) ∧ (b = false → ev = .map none ∧ p.ne = 0 ∧ ∀ s, p.ents s = none)
theorem NdG.kept {b : Bool} {y : Lay} {p : Pn} {w w' : World} {X : Nat → Prop} (h : NdG b y p w) (f : Fr X w w') (h1 : ¬ X y.ib) (h2 : b = true → ¬ X y.eb) (h3 : ∀ g, y.od = some g → ¬ X g) : NdG b y p w' := by
  obtain ⟨dv, ev, k1, k2, k3, k4⟩ := h.blk
  exact ⟨dv, ev, f.heap k1 h1, k2.kept f h3, fun hk => ⟨(k3 hk).1, (k3 hk).2.kept f (h2 hk)⟩, k4⟩
def BkG (md : Int → Bool) (fb mb : Nat) (L : Int → Lay) (q : Int → Option Pn) (k : Nat) : Prop := k = fb ∨ k = mb ∨ ∃ n p, q n = some p ∧ (k = (L n).ib ∨ md n = true ∧ k = (L n).eb ∨ (L n).od = some k)
structure FsG (md : Int → Bool) (fb mb : Nat) (L : Int → Lay) (h : Hx) (q : Int → Option Pn) (cnt : Nat) (w : World) : Prop where
  blk : w.heap[fb]? = some (.cells #[.map (some mb), .int .i64 h.nodes, .int .i64 h.bytes, .int .i64 h.held, .int .i64 h.next, .slice none 0 0] 82)
  mp : Mp MI mb (fun k => (q k).map fun _ => (L k).ib) cnt w
  nd : ∀ k p, q k = some p → NdG (md k) (L k) p w
  inj : ∀ k k' p p', q k = some p → q k' = some p' → k ≠ k' → (L k).ib ≠ (L k').ib ∧ (md k = true → md k' = true → (L k).eb ≠ (L k').eb) ∧ ∀ g, (L k).od = some g → (L k').od ≠ some g
  ebm : ∀ k p, q k = some p → md k = true → (L k).eb ≠ mb
variable {md : Int → Bool} {fb mb : Nat} {L : Int → Lay} {h : Hx} {q : Int → Option Pn} {cnt : Nat} {w w' : World} {X : Nat → Prop}
theorem FsG.kept (H : FsG md fb mb L h q cnt w) (f : Fr X w w') (hx : ∀ k, X k → ¬ BkG md fb mb L q k) : FsG md fb mb L h q cnt w' := by
  refine ⟨f.heap H.blk (fun e => hx fb e (.inl rfl)), H.mp.kept f (fun e => hx mb e (.inr (.inl rfl))), fun k p hp => (H.nd k p hp).kept f (fun e => hx _ e (.inr (.inr ⟨k, p, hp, .inl rfl⟩))) (fun hk e => hx _ e (.inr (.inr ⟨k, p, hp, .inr (.inl ⟨hk, rfl⟩)⟩))) (fun g hg e => hx _ e (.inr (.inr ⟨k, p, hp, .inr (.inr hg)⟩))), H.inj, H.ebm⟩
theorem FsG.nw (H : FsG md fb mb L h q cnt w) (f : Nw w w') : FsG md fb mb L h q cnt w' := H.kept f (fun _ h => h.elim)
theorem FsG.lt (H : FsG md fb mb L h q cnt w) (k : Nat) (hk : BkG md fb mb L q k) : k < w.heap.size := by
  rcases hk with rfl | rfl | ⟨n, p, hp, hk⟩
  · exact blt H.blk
  · exact H.mp.lt
  · obtain ⟨dv, ev, k1, k2, k3, k4⟩ := (H.nd n p hp).blk
    rcases hk with rfl | ⟨hk, rfl⟩ | hk
    · exact blt k1
    · exact (k3 hk).2.lt
    · rw [hk] at k2; exact OgB.lt k2
theorem FsG.tfb (H : FsG md fb mb L h q cnt w) : tg w fb = some 82 := tg_cells H.blk
theorem FsG.tmb (H : FsG md fb mb L h q cnt w) : tg w mb = none := H.mp.tg
theorem FsG.tib (H : FsG md fb mb L h q cnt w) {k : Int} {p : Pn} (hp : q k = some p) : tg w (L k).ib = some 91 := by
  obtain ⟨dv, ev, k1, _⟩ := (H.nd k p hp).blk
  exact tg_cells k1
theorem FsG.teb (H : FsG md fb mb L h q cnt w) {k : Int} {p : Pn} (hp : q k = some p) (hk : md k = true) : tg w (L k).eb = none := by
  obtain ⟨dv, ev, _, _, k3, _⟩ := (H.nd k p hp).blk
  exact (k3 hk).2.tg
theorem FsG.tod (H : FsG md fb mb L h q cnt w) {k : Int} {p : Pn} (hp : q k = some p) (g : Nat) (hg : (L k).od = some g) : tg w g = some 5 := by
  obtain ⟨dv, ev, _, k2, _⟩ := (H.nd k p hp).blk
  rw [hg] at k2
  exact k2.tg
/-- One inode turned; it may have got its map of entries. -/
theorem FsG.turn (H : FsG md fb mb L h q cnt w) {n : Int} {p p' : Pn} (hp : q n = some p) {b' : Bool} {eb' : Nat} (hb : (b' = md n ∧ eb' = (L n).eb) ∨ w.heap.size ≤ eb') (f : Fr X w w') (hX : ∀ k, X k → k = (L n).ib ∨ md n = true ∧ k = (L n).eb)
    (hN : NdG b' ⟨(L n).ib, eb', (L n).od⟩ p' w') : FsG (fun k => if k = n then b' else md k) fb mb (fun k => if k = n then ⟨(L n).ib, eb', (L n).od⟩ else L k) h (fun k => if k = n then some p' else q k) cnt w' := by
  have hXt : ∀ k, X k → tg w k = some 91 ∧ k = (L n).ib ∨ tg w k = none ∧ k = (L n).eb ∧ md n = true := fun k hx => by
    rcases hX k hx with rfl | ⟨hk1, rfl⟩
    · exact .inl ⟨H.tib hp, rfl⟩
    · exact .inr ⟨H.teb hp hk1, rfl, hk1⟩
  refine ⟨f.heap H.blk (fun e => ?_), (H.mp.kept f (fun e => ?_)).cong (fun k _ => ?_), fun k p2 hp2 => ?_, fun k k' p1 p2 hp1 hp2 hne => ?_, fun k p2 hp2 hk2 => ?_⟩
  · rcases hXt fb e with ⟨t, _⟩ | ⟨t, _, _⟩ <;> rw [H.tfb] at t <;> cases t
  · rcases hXt mb e with ⟨t, _⟩ | ⟨_, t, hk1⟩
    · rw [H.tmb] at t; cases t
    · exact H.ebm n p hp hk1 t.symm
  · by_cases hkn : k = n
    · subst hkn
      simp only [if_true, hp]
      rfl
    · simp only [if_neg hkn]
  · by_cases hkn : k = n
    · subst hkn
      simp only [if_true, Option.some.injEq] at hp2 ⊢
      subst hp2
      exact hN
    · simp only [if_neg hkn] at hp2 ⊢
      have hi := H.inj k n p2 p hp2 hp hkn
      refine (H.nd k p2 hp2).kept f (fun e => ?_) (fun hk2 e => ?_) (fun g hg e => ?_)
      · rcases hXt _ e with ⟨_, t⟩ | ⟨t, _, _⟩
        · exact hi.1 t
        · rw [H.tib hp2] at t; cases t
      · rcases hXt _ e with ⟨t, _⟩ | ⟨_, t, hk1⟩
        · rw [H.teb hp2 hk2] at t; cases t
        · exact hi.2.1 hk2 hk1 t
      · have ht := H.tod hp2 g hg
        rcases hXt _ e with ⟨t, _⟩ | ⟨t, _, _⟩
        · rw [ht] at t; cases t
        · rw [ht] at t; cases t
  · have heb : ∀ j p3, q j = some p3 → j ≠ n → b' = true → md j = true → eb' ≠ (L j).eb := fun j p3 hj hjn hb1 hm e => by
      rcases hb with ⟨e1, e2⟩ | hge
      · exact (H.inj n j p p3 hp hj (fun e => hjn e.symm)).2.1 (e1 ▸ hb1) hm (e2 ▸ e)
      · have := H.lt _ (.inr (.inr ⟨j, p3, hj, .inr (.inl ⟨hm, rfl⟩)⟩))
        omega
    by_cases hkn : k = n
    · subst hkn
      have hk' : k' ≠ k := fun e => hne e.symm
      simp only [if_true, if_neg hk', Option.some.injEq] at hp1 hp2 ⊢
      have hi := H.inj k k' p p2 hp hp2 hne
      exact ⟨hi.1, fun a b => heb k' p2 hp2 hk' a b, hi.2.2⟩
    · by_cases hkn' : k' = n
      · subst hkn'
        simp only [if_true, if_neg hkn, Option.some.injEq] at hp1 hp2 ⊢
        have hi := H.inj k k' p1 p hp1 hp hne
        exact ⟨hi.1, fun a b e => heb k p1 hp1 hkn b a e.symm, hi.2.2⟩
      · simp only [if_neg hkn, if_neg hkn'] at hp1 hp2 ⊢
        exact H.inj k k' p1 p2 hp1 hp2 hne
  · by_cases hkn : k = n
    · subst hkn
      simp only [if_true, Option.some.injEq] at hp2 hk2 ⊢
      rcases hb with ⟨e1, e2⟩ | hge
      · rw [e2]; exact H.ebm k p hp (e1 ▸ hk2)
      · have := H.mp.lt; omega
    · simp only [if_neg hkn] at hp2 hk2 ⊢
      exact H.ebm k p2 hp2 hk2
theorem FsG.turnS (H : FsG md fb mb L h q cnt w) {n : Int} {p p' : Pn} (hp : q n = some p) (f : Fr X w w') (hX : ∀ k, X k → k = (L n).ib ∨ md n = true ∧ k = (L n).eb)
    (hN : NdG (md n) (L n) p' w') : FsG md fb mb L h (fun k => if k = n then some p' else q k) cnt w' := by
  have := H.turn hp (b' := md n) (eb' := (L n).eb) (.inl ⟨rfl, rfl⟩) f hX hN
  have e : (fun k => if k = n then (⟨(L n).ib, (L n).eb, (L n).od⟩ : Lay) else L k) = L := by
    funext k
    by_cases hk : k = n
    · rw [if_pos hk, hk]
    · rw [if_neg hk]
  have e2 : (fun k => if k = n then md n else md k) = md := by
    funext k
    by_cases hk : k = n
    · rw [if_pos hk, hk]
    · rw [if_neg hk]
  rw [e, e2] at this
  exact this
theorem FsG.look (H : FsG md fb mb L h q cnt w) {k : Int} (hk : I64 k) {p : Pn} (hq : q k = some p) : (Instr.lookup 80 (.map (some mb)) (.int .i64 k) false).run Tryz.prog w = .ok (.pointer (some ⟨(L k).ib, 0, none⟩)) w := by
  have := H.mp.look1 miOk k hk
  simp only [hq] at this
  exact this
/-- The head turned. -/
theorem FsG.head (H : FsG md fb mb L h q cnt w) (f : Fr (fun k => k = fb) w w') {h' : Hx}
    (hb : w'.heap[fb]? = some (.cells #[.map (some mb), .int .i64 h'.nodes, .int .i64 h'.bytes, .int .i64 h'.held, .int .i64 h'.next, .slice none 0 0] 82)) : FsG md fb mb L h' q cnt w' := by
  refine ⟨hb, H.mp.kept f (fun e => ?_), fun k p2 hp2 => (H.nd k p2 hp2).kept f (fun e => ?_) (fun hk2 e => ?_) (fun g hg e => ?_), H.inj, H.ebm⟩
  · have := H.tmb; rw [e, H.tfb] at this; cases this
  · have := H.tib hp2; rw [e, H.tfb] at this; exact absurd this (by decide)
  · have := H.teb hp2 hk2; rw [e, H.tfb] at this; cases this
  · have := H.tod hp2 g hg; rw [e, H.tfb] at this; exact absurd this (by decide)
/-- An inode's own cells turned. -/
theorem NdG.re {b : Bool} {y : Lay} {p p' : Pn} (hN : NdG b y p w) (f : Fr (fun k => k = y.ib) w w') (e1 : p'.data = p.data) (e2 : p'.ents = p.ents) (e3 : p'.ne = p.ne)
    (hh : ∀ dv ev, w.heap[y.ib]? = some (.cells (ndC p dv ev) 91) → w'.heap[y.ib]? = some (.cells (ndC p' dv ev) 91)) : NdG b y p' w' := by
  obtain ⟨dv, ev, k1, k2, k3, k4⟩ := hN.blk
  have t1 := tg_cells k1
  refine ⟨dv, ev, hh dv ev k1, ?_, fun hk => ?_, fun hk => ?_⟩
  · rw [e1]
    refine k2.kept f (fun g hg e => ?_)
    rw [hg] at k2
    have := k2.tg
    rw [e, t1] at this; cases this
  · rw [e2, e3]
    refine ⟨(k3 hk).1, (k3 hk).2.kept f (fun e => ?_)⟩
    have := (k3 hk).2.tg
    rw [e, t1] at this; cases this
  · rw [e2, e3]
    exact k4 hk
/-- A new inode, without a map of entries. -/
theorem FsG.more (H : FsG md fb mb L h q cnt w) (hcn : cnt ≤ 1000000) {n : Int} (hn64 : I64 n) (hn : q n = none) (hmd : md n = false) {p : Pn} {ib : Nat} {od : Option Nat} (hib : ∀ k, BkG md fb mb L q k → k ≠ ib) (hod : ∀ g, od = some g → ∀ k, BkG md fb mb L q k → k ≠ g) {dv : Value} (hI : w.heap[ib]? = some (.cells (ndC p dv (.map none)) 91)) (hO : OgB od dv p.data w) (hne : p.ne = 0 ∧ ∀ s, p.ents s = none) :
    ∃ W, (Instr.mapUpdate 80 (.map (some mb)) (.int .i64 n) (.pointer (some ⟨ib, 0, none⟩))).run Tryz.prog w = .ok () W ∧ FsG md fb mb (fun k => if k = n then ⟨ib, 0, od⟩ else L k) h (fun k => if k = n then some p else q k) (cnt + 1) W ∧ Fr (fun k => k = mb) w W := by
  obtain ⟨W, r1, r2, r3⟩ := H.mp.store miOk n hn64 ib trivial (by omega)
  refine ⟨W, r1, ⟨r3.heap H.blk (fun e => ?_), ?_, fun k p2 hp2 => ?_, fun k k' p1 p2 hp1 hp2 hne2 => ?_, fun k p2 hp2 hk2 => ?_⟩, r3⟩
  · have := H.tfb; rw [e, H.tmb] at this; cases this
  · have := r2 (fun k => ((if k = n then some p else q k) : Option Pn).map fun _ => ((if k = n then ⟨ib, 0, od⟩ else L k) : Lay).ib) (fun x _ => by
      by_cases hx : x = n
      · simp [hx]
      · simp [hx])
    rw [hn] at this
    exact this
  · by_cases hkn : k = n
    · subst hkn
      simp only [if_true, Option.some.injEq] at hp2 ⊢
      subst hp2
      rw [hmd]
      refine ⟨dv, .map none, r3.heap hI (fun e => hib mb (.inr (.inl rfl)) e.symm), hO.kept r3 (fun g hg e => hod g hg mb (.inr (.inl rfl)) e.symm), (fun hk => by cases hk), fun _ => ⟨rfl, hne.1, hne.2⟩⟩
    · simp only [if_neg hkn] at hp2 ⊢
      refine (H.nd k p2 hp2).kept r3 (fun e => ?_) (fun hk2 e => ?_) (fun g hg e => ?_)
      · have := H.tib hp2; rw [e, H.tmb] at this; cases this
      · exact H.ebm k p2 hp2 hk2 e
      · have := H.tod hp2 g hg; rw [e, H.tmb] at this; cases this
  · by_cases hkn : k = n
    · subst hkn
      have hk' : k' ≠ k := fun e => hne2 e.symm
      simp only [if_true, if_neg hk', Option.some.injEq] at hp1 hp2 ⊢
      exact ⟨fun e => hib _ (.inr (.inr ⟨k', p2, hp2, .inl rfl⟩)) e.symm, fun a => (by rw [hmd] at a; cases a), fun g hg e => hod g hg g (.inr (.inr ⟨k', p2, hp2, .inr (.inr e)⟩)) rfl⟩
    · by_cases hkn' : k' = n
      · subst hkn'
        simp only [if_true, if_neg hkn, Option.some.injEq] at hp1 hp2 ⊢
        exact ⟨fun e => hib _ (.inr (.inr ⟨k, p1, hp1, .inl rfl⟩)) e, fun a b => (by rw [hmd] at b; cases b), fun g hg e => hod g e g (.inr (.inr ⟨k, p1, hp1, .inr (.inr hg)⟩)) rfl⟩
      · simp only [if_neg hkn, if_neg hkn'] at hp1 hp2 ⊢
        exact H.inj k k' p1 p2 hp1 hp2 hne2
  · by_cases hkn : k = n
    · subst hkn; rw [hmd] at hk2; cases hk2
    · simp only [if_neg hkn] at hp2 ⊢
      exact H.ebm k p2 hp2 hk2
/-- All directories have their entries: it is a file system. -/
theorem FsG.fs (H : FsG md fb mb L h q cnt w) (hmd : ∀ k p, q k = some p → (md k = true ↔ p.kind = 1)) : FsH fb mb none L h q cnt [] w := by
  refine ⟨⟨.slice none 0 0, H.blk, rfl, rfl⟩, H.mp, fun k p hp => ?_, fun k k' p p' hp hp' hne => ?_, fun k p hp hk => H.ebm k p hp ((hmd k p hp).2 hk)⟩
  · obtain ⟨dv, ev, k1, k2, k3, k4⟩ := (H.nd k p hp).blk
    refine ⟨dv, ev, k1, k2, fun hk => k3 ((hmd k p hp).2 hk), fun hk => k4 ?_⟩
    cases hm : md k with
    | false => rfl
    | true => exact absurd ((hmd k p hp).1 hm) hk
  · obtain ⟨a, b, c⟩ := H.inj k k' p p' hp hp' hne
    exact ⟨a, fun h1 h2 => b ((hmd k p hp).2 h1) ((hmd k' p' hp').2 h2), c⟩
theorem entG_store (H : FsG md fb mb L h q cnt w) {d n : Int} {s : Tx} (hs : s.length ≤ 140737488351232) {pd : Pn} (hd : q d = some pd) (hk : md d = true) (hf : pd.ents s = none) (hne : pd.ne ≤ 1000000000000000) :
    ∃ W, (Instr.mapUpdate 89 (.map (some (L d).eb)) (.string (mk s)) (.int .i64 n)).run Tryz.prog w = .ok () W ∧ FsG md fb mb L h (fun k => if k = d then some (putEnt pd s n) else q k) cnt W ∧ Fr (fun k => k = (L d).eb) w W := by
  obtain ⟨dv, ev, k1, k2, k3, k4⟩ := (H.nd d pd hd).blk
  obtain ⟨W, r1, r2, r3⟩ := (k3 hk).2.store meOk s hs n trivial hne
  refine ⟨W, r1, H.turnS hd r3 (fun k e => .inr ⟨hk, e⟩) ⟨dv, ev, ?_, ?_, fun _ => ⟨(k3 hk).1, ?_⟩, fun hn => (by rw [hk] at hn; cases hn)⟩, r3⟩
  · exact r3.heap k1 (fun e => by have := (k3 hk).2.tg; rw [← e, tg_cells k1] at this; cases this)
  · exact k2.kept r3 (fun g hg e => by rw [hg] at k2; have := k2.tg; rw [e, (k3 hk).2.tg] at this; cases this)
  · have := r2 (putEnt pd s n).ents (fun x _ => rfl)
    rw [hf] at this
    exact this
set_option maxHeartbeats 4000000 in
theorem enterG_any (H : FsG md fb mb L h q cnt w) (d n : Int) (hd64 : I64 d) (hn64 : I64 n) (s : Tx) (hs : s.length ≤ 140737488351232) {pd pn : Pn} (hd : q d = some pd) (hk : md d = true) (hf : pd.ents s = none) (hne : pd.ne ≤ 1000000000000000) (hn : q n = some pn) (hdn : d ≠ n) (hl : 0 ≤ pn.links ∧ pn.links ≤ 1000000000000000) :
    Calls Tryz.prog 56 #[.pointer (some ⟨fb, 0, none⟩), .agg #[.int .i64 d, .string (mk s)], .int .i64 n] w fun e w' => (∃ r, e = .returned r) ∧ FsG md fb mb L h (entQ q d s n) cnt w' ∧ Fr (fun k => k = (L d).eb ∨ k = (L n).ib) w w' := by
  obtain ⟨P, hP⟩ : ∃ P : Ending → World → Prop, P = fun e w' => (∃ r, e = .returned r) ∧ FsG md fb mb L h (entQ q d s n) cnt w' ∧ Fr (fun k => k = (L d).eb ∨ k = (L n).ib) w w' := ⟨_, rfl⟩
  rw [← hP]
  obtain ⟨V, hV⟩ : ∃ V, V = w.alloc (.cells #[.int .i64 d, .string (mk s)] 110) := ⟨_, rfl⟩
  have hN : Nw w V := by rw [hV]; exact (Fr.refl _ _).alloc _
  have HV := H.nw hN
  have c0 := (rc HV.blk 0 _ rfl).1
  have hfl := blt H.blk
  obtain ⟨dv, ev, kk1, kk2, kk3, _⟩ := (HV.nd d pd hd).blk
  rw [(kk3 hk).1] at kk1
  have hC := ndc_of kk1
  have x8 := hC.c8
  have hl1 : (Instr.lookup 80 (.map (some mb)) (.int .i64 d) false).run Tryz.prog V.drew = .ok (.pointer (some ⟨(L d).ib, 0, none⟩)) V.drew := (HV.nw ((Fr.refl _ _).drew)).look hd64 hd
  have b0 : V.cell? ⟨w.heap.size, 0, none⟩ = some (.int .i64 d) := by rw [hV]; exact (rc (nh w _) 0 _ rfl).1
  have b1 : V.cell? ⟨w.heap.size, 1, none⟩ = some (.string (mk s)) := by rw [hV]; exact (rc (nh w _) 1 _ rfl).1
  obtain ⟨W, hmu, HW, hfW⟩ := entG_store (n := n) (HV.nw ((Fr.refl _ _).drew)) hs hd hk hf hne
  have hnW : (if n = d then some (putEnt pd s n) else q n) = some pn := by rw [if_neg (fun e => hdn e.symm)]; exact hn
  have d0 := (rc HW.blk 0 _ rfl).1
  have hl2 := HW.look (k := n) hn64 hnW
  obtain ⟨dv2, ev2, nv1, _, _, _⟩ := (HW.nd n pn hnW).blk
  have hD := ndc_of nv1
  have y0 := hD.c0
  have y9 := hD.c9
  have g9 := hD.f9
  have b2 : W.cell? ⟨w.heap.size, 0, none⟩ = some (.int .i64 d) := by
    refine hfW.cellv (v := .int .i64 d) (p := ⟨w.heap.size, 0, none⟩) b0 (fun e => ?_)
    have e : w.heap.size = (L d).eb := e
    have := H.lt _ (.inr (.inr ⟨d, pd, hd, .inr (.inl ⟨hk, rfl⟩)⟩))
    omega
  have hib : (L n).ib < w.heap.size := H.lt _ (.inr (.inr ⟨n, pn, hn, .inl rfl⟩))
  have hnb : ¬ (L n).ib = w.heap.size := by omega
  have hnb2 : ¬ w.heap.size = (L n).ib := by omega
  have hfW0 : Fr (fun k => k = (L d).eb ∨ k = (L n).ib) w W := (hN.any.trans (Fr.refl _ _).drew).trans (hfW.mono (fun i e => .inl (.inl e)))
  obtain ⟨W2, hW2⟩ : ∃ W2, W2 = W.setCell ⟨(L n).ib, 9, none⟩ (.int .i64 (pn.links + 1)) := ⟨_, rfl⟩
  have heq : entQ q d s n = fun k => if k = n then some (named1 pn d) else (if k = d then some (putEnt pd s n) else q k) := by
    funext k
    unfold entQ
    rw [hn, hd]; rfl
  have hw1 : IntKind.i64.wrap (pn.links + 1) = pn.links + 1 := by rw [IntKind.wrap_i64]; omega
  by_cases hk1 : pn.kind = 1
  · have ga : W2.frozen? ⟨(L n).ib, 10, none⟩ = false := by rw [hW2]; exact (rc (rset nv1 9 _) 10 _ rfl).2
    have ya : W2.cell? ⟨(L n).ib, 10, none⟩ = some (.int .i64 pn.up) := by rw [hW2]; exact (rc (rset nv1 9 _) 10 _ rfl).1
    have yk : W2.cell? ⟨(L n).ib, 0, none⟩ = some (.int .i64 1) := by rw [hW2, ← hk1]; exact (rc (rset nv1 9 _) 0 _ rfl).1
    have b3 : W2.cell? ⟨w.heap.size, 0, none⟩ = some (.int .i64 d) := by
      rw [hW2]
      exact Fr.cellv ((Fr.refl (fun k => k = (L n).ib) W).setCell ⟨(L n).ib, 9, none⟩ _ (.inl rfl)) b2 (fun e => hnb2 e)
    have HF : Hid (∀ r, P (.returned r) (W2.setCell ⟨(L n).ib, 10, none⟩ (.int .i64 d))) := fun r => by
      rw [hP, heq]
      have f2 : Fr (fun k => k = (L n).ib) W (W2.setCell ⟨(L n).ib, 10, none⟩ (.int .i64 d)) := by
        rw [hW2]
        exact ((Fr.refl (fun k => k = (L n).ib) W).setCell ⟨(L n).ib, 9, none⟩ _ (.inl rfl)).setCell ⟨(L n).ib, 10, none⟩ _ (.inl rfl)
      refine ⟨⟨r, rfl⟩, HW.turnS hnW f2 (fun k e => .inl e) ((HW.nd n pn hnW).re f2 rfl rfl rfl (fun dv ev hh => ?_)), hfW0.trans (f2.mono (fun i e => .inl (.inr e)))⟩
      have := rset (rset hh 9 (.int .i64 (pn.links + 1))) 10 (.int .i64 d)
      rw [← hW2] at this
      rw [this]
      simp [ndC, named1, hk1]
    clear kk1 kk2 kk3 H HV hC HW hD nv1 hfW hfW0 hP heq hn hd hnW hk hf
    rw [hk1] at y0
    clear hk1
    generalize (L d).ib = ib at *
    generalize (L d).eb = eb at *
    generalize (L n).ib = nb at *
    generalize mk s = ss at *
    generalize pn.links = lk at *
    generalize pn.up = up at *
    go_enter Tryz.func56, Tryz.ntmps56
    go_upto_region 1 with fail
    rw [← hV]
    clear hV
    go_region
    go_upto_region 4 with fail
    rw [← hW2]
    clear hW2
    go_wp2_with fail
    first | exact HF.out _ | (go_end0; exact HF.out _)
  · have hkb : (pn.kind == 1) = false := by rw [beq_eq_false_iff_ne]; exact hk1
    have yk : W2.cell? ⟨(L n).ib, 0, none⟩ = some (.int .i64 pn.kind) := by rw [hW2]; exact (rc (rset nv1 9 _) 0 _ rfl).1
    have HF : Hid (∀ r, P (.returned r) W2) := fun r => by
      rw [hP, heq]
      have f2 : Fr (fun k => k = (L n).ib) W W2 := by
        rw [hW2]
        exact (Fr.refl (fun k => k = (L n).ib) W).setCell ⟨(L n).ib, 9, none⟩ _ (.inl rfl)
      refine ⟨⟨r, rfl⟩, HW.turnS hnW f2 (fun k e => .inl e) ((HW.nd n pn hnW).re f2 rfl rfl rfl (fun dv ev hh => ?_)), hfW0.trans (f2.mono (fun i e => .inl (.inr e)))⟩
      have := rset hh 9 (.int .i64 (pn.links + 1))
      rw [← hW2] at this
      rw [this]
      simp [ndC, named1, hk1]
    clear kk1 kk2 kk3 H HV hC HW hD nv1 hfW hfW0 hP heq hn hd hnW hk hf
    generalize pn.kind = kd at *
    generalize (L d).ib = ib at *
    generalize (L d).eb = eb at *
    generalize (L n).ib = nb at *
    generalize mk s = ss at *
    generalize pn.links = lk at *
    go_enter Tryz.func56, Tryz.ntmps56
    go_upto_region 1 with fail
    rw [← hV]
    clear hV
    go_region
    go_upto_region 4 with fail
    rw [← hW2]
    clear hW2
    go_wp2_with fail
    first | exact HF.out _ | (go_end0; exact HF.out _)
end Go.Proofs.YtcogkhcfpgelhabGreat
