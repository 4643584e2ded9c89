import Derived.Test.YtcogkhcfpgelhaaGreatVad
import Derived.Test.YtcogkhcfpgelhaaGreatVae
import Derived.Test.YtcogkhcfpgelhaaGreatVaf
import Derived.StringKeys
namespace Go.Proofs.YtcogkhcfpgelhaaGreat
open Go.RowKit
set_option linter.unusedVariables false
set_option maxRecDepth 100000
theorem rc {w : World} {rb : Nat} {a : Array Value} {T : Nat} (h : w.heap[rb]? = some (.cells a T)) (j : Nat) (v : Value) (hv : a[j]? = some v) : w.cell? ⟨rb, j, none⟩ = some v ∧ w.frozen? ⟨rb, j, none⟩ = false := by
  constructor <;> simp [World.cell?, World.frozen?, h, hv]
theorem nh (w : World) (o : Obj) : (w.alloc o).heap[w.heap.size]? = some o := by
  show (w.heap.push _)[w.heap.size]? = _
  simp
theorem blt {w : World} {g : Nat} {o : Obj} (h : w.heap[g]? = some o) : g < w.heap.size := (Array.getElem?_eq_some_iff.1 h).1
theorem Fr.heap {X : Nat → Prop} {w w' : World} (f : Fr X w w') {g : Nat} {o : Obj} (h : w.heap[g]? = some o) (hx : ¬ X g) : w'.heap[g]? = some o := (f.block g (blt h) hx).trans h
/-! ### The maps of inodes and of entries -/
def Rptr : Value → Option (DataW Unit × List MemPlace)
  | .pointer (some ⟨g, 0, none⟩) => some (.lit (.int .i64 g), [])
  | .pointer none => some (.lit (.bool false), [])
  | _ => none
theorem Rptr_inv {u : Value} {g : Nat} {ps : List MemPlace} (h : Rptr u = some (.lit (.int .i64 g), ps)) : u = .pointer (some ⟨g, 0, none⟩) := by
  unfold Rptr at h
  split at h
  · simp only [Option.some.injEq, Prod.mk.injEq] at h
    obtain ⟨h, _⟩ := h
    injection h with h
    injection h with _ h
    rw [Int.ofNat.inj h]
  · simp only [Option.some.injEq, Prod.mk.injEq] at h
    obtain ⟨h, _⟩ := h
    injection h with h
    cases h
  · cases h
theorem Rptr_nil {u : Value} {ps : List MemPlace} (h : Rptr u = some (.lit (.bool false), ps)) : u = .pointer none := by
  unfold Rptr at h
  split at h
  · simp only [Option.some.injEq, Prod.mk.injEq] at h
    obtain ⟨h, _⟩ := h
    injection h with h
    cases h
  · rfl
  · cases h
def MI : MT Int Nat := { kt := 3, et := 97, mt := 98, kv := fun k => .int .i64 k, kl := fun k => .int .i64 k, kok := I64, ev := fun g => .pointer (some ⟨g, 0, none⟩), ed := fun g => .lit (.int .i64 g), eok := fun _ => True, zv := .pointer none, zd := .lit (.bool false), R := Rptr }
theorem miOk : MI.Ok where
  keyed := Maps.int_keyed Tryz.underlying3
  und := Tryz.underlying98
  keq := fun k hk => Maps.keyOf_int_mk Tryz.underlying3 (i64wf hk.1 hk.2)
  kinj := fun k k' _ _ h => by simp only [MI] at h; injection h
  eR := fun v _ => rfl
  einv := fun u v ps _ h => Rptr_inv h
  zR := rfl
  zinv := fun u ps h => Rptr_nil h
  zero := fun w => by kernel_rfl
def Rint : Value → Option (DataW Unit × List MemPlace)
  | .int .i64 a => some (.lit (.int .i64 a), [])
  | _ => none
theorem Rint_inv {u : Value} {g : Int} {ps : List MemPlace} (h : Rint u = some (.lit (.int .i64 g), ps)) : u = .int .i64 g := by
  unfold Rint at h
  split at h
  · simp only [Option.some.injEq, Prod.mk.injEq] at h
    obtain ⟨h, _⟩ := h
    injection h with h
    injection h with _ h
    rw [h]
  · cases h
def ME : MT Tx Int := { kt := 9, et := 3, mt := 102, kv := fun k => .string (mk k), kl := fun k => .string k, kok := fun k => k.length ≤ 140737488351232, ev := fun g => .int .i64 g, ed := fun g => .lit (.int .i64 g), eok := fun _ => True, zv := .int .i64 0, zd := .lit (.int .i64 0), R := Rint }
theorem meOk : ME.Ok where
  keyed := Maps.string_keyed Tryz.underlying9
  und := Tryz.underlying102
  keq := fun k hk => by
    have := WideMaps.keyOf_string_mk (P := Tryz.prog) (k := 9) Tryz.underlying9 (s := mk k) (by rw [mk_size]; simp only [ME] at hk; unfold maxLen; omega)
    exact this
  kinj := fun k k' _ _ h => by simp only [ME] at h; injection h
  eR := fun v hv => rfl
  einv := fun u v ps _ h => Rint_inv h
  zR := rfl
  zinv := fun u ps h => Rint_inv h
  zero := fun w => by kernel_rfl
/-! ### Acts in memory -/
def RAc : RT Ac := { enc := fun x => [.int .i64 x.op, .int .i64 x.dir, .string (mk x.name), .int .i64 x.node, .int .i64 x.too, .string (mk x.other), .int .i64 x.pl, .int .i64 x.n], k := 8, T := 129, TS := 68, z := ⟨0, 0, [], 0, 0, [], 0, 0⟩, by_ := 80 }
theorem racOk : RAc.Ok := by
  refine ⟨fun _ => rfl, by decide, fun x v hv => ?_, Tryz.underlying68, ?_⟩
  · simp only [RAc, List.mem_cons, List.mem_nil_iff, or_false] at hv
    rcases hv with rfl | rfl | rfl | rfl | rfl | rfl | rfl | rfl <;> rfl
  · have h : (Tryz.prog.info? 129).map (fun i => (i.zero, i.size, i.bytes)) = some (some (.agg #[.int .i64 0, .int .i64 0, .string ⟨#[]⟩, .int .i64 0, .int .i64 0, .string ⟨#[]⟩, .int .i64 0, .int .i64 0]), 8, 80) := by kernel_rfl
    cases hq : Tryz.prog.info? 129 with
    | none => simp [hq] at h
    | some i => simp [hq] at h; exact ⟨i, _, hq, h.1, h.2.1, h.2.2, rfl⟩
/-! ### Inodes in memory -/
structure Pn where
  kind : Int
  mt : Mt
  data : List By
  tgt : Tx
  ents : Tx → Option Int
  ne : Nat
  links : Int
  up : Int
structure Lay where
  ib : Nat
  eb : Nat
  od : Option Nat
def OgB (od : Option Nat) (v : Value) (l : List By) (w : World) : Prop := match od with | none => v = .slice none 0 0 ∧ l = [] | some g => Ow g v l w
theorem OgB.kept {od : Option Nat} {v : Value} {l : List By} {w w' : World} {X : Nat → Prop} (h : OgB od v l w) (f : Fr X w w') (hx : ∀ g, od = some g → ¬ X g) : OgB od v l w' := by
  cases od with
  | none => exact h
  | some g => exact Ow.kept h f (hx g rfl)
theorem OgB.nw {od : Option Nat} {v : Value} {l : List By} {w w' : World} (h : OgB od v l w) (f : Nw w w') : OgB od v l w' := h.kept f (fun _ _ h => h)
theorem OgB.lt {g : Nat} {v : Value} {l : List By} {w : World} (h : OgB (some g) v l w) : g < w.heap.size := Ow.lt h
theorem OgB.form {od : Option Nat} {v : Value} {l : List By} {w : World} (h : OgB od v l w) : ∃ a c, v = .slice a l.length c ∧ l.length ≤ c ∧ c < 9223372036854775808 := by
  cases od with
  | none => exact ⟨none, 0, by rw [h.1, h.2]; rfl, by rw [h.2]; simp, by decide⟩
  | some g => obtain ⟨xs, h1, h2, h3, h4, h5⟩ := h; exact ⟨_, _, h1, h3, h4⟩
theorem OgB.sl {od : Option Nat} {v : Value} {l : List By} {w : World} (h : OgB od v l w) : Sl (fun k => od ≠ some k) v l w := by
  cases od with
  | none => exact .inl ⟨none, h.1, h.2⟩
  | some g => exact .inr ⟨g, fun e => e rfl, Ow.slb h⟩
abbrev ndC (p : Pn) (dv ev : Value) : Array Value := #[.int .i64 p.kind, .int .u32 p.mt.mode, .int .u32 p.mt.uid, .int .u32 p.mt.gid, .int .i64 p.mt.time, .int .i32 p.mt.nano, dv, .string (mk p.tgt), ev, .int .i64 p.links, .int .i64 p.up]
structure NdH (y : Lay) (p : Pn) (w : World) : Prop where
  blk : ∃ dv ev, w.heap[y.ib]? = some (.cells (ndC p dv ev) 104) ∧ OgB y.od dv p.data w ∧ (p.kind = 1 → ev = .map (some y.eb) ∧ Mp ME y.eb p.ents p.ne w) ∧ (p.kind ≠ 1 → ev = .map none ∧ p.ne = 0 ∧ ∀ s, p.ents s = none)
theorem NdH.kept {y : Lay} {p : Pn} {w w' : World} {X : Nat → Prop} (h : NdH y p w) (f : Fr X w w') (h1 : ¬ X y.ib) (h2 : p.kind = 1 → ¬ X y.eb) (h3 : ∀ g, y.od = some g → ¬ X g) : NdH y p w' := by
  obtain ⟨dv, ev, k1, k2, k3, k4⟩ := h.blk
  exact ⟨dv, ev, f.heap k1 h1, k2.kept f h3, fun hk => ⟨(k3 hk).1, (k3 hk).2.kept f (h2 hk)⟩, k4⟩
theorem NdH.nw {y : Lay} {p : Pn} {w w' : World} (h : NdH y p w) (f : Nw w w') : NdH y p w' := h.kept f (fun h => h) (fun _ h => h) (fun _ _ h => h)
structure Hx where
  nodes : Int
  bytes : Int
  held : Int
  next : Int
/-- The blocks of a file system. -/
def Bk (fb mb : Nat) (ot : Option Nat) (L : Int → Lay) (q : Int → Option Pn) (k : Nat) : Prop := k = fb ∨ k = mb ∨ ot = some k ∨ ∃ n p, q n = some p ∧ (k = (L n).ib ∨ p.kind = 1 ∧ k = (L n).eb ∨ (L n).od = some k)
structure FsH (fb mb : Nat) (ot : Option Nat) (L : Int → Lay) (h : Hx) (q : Int → Option Pn) (cnt : Nat) (T : List Ac) (w : World) : Prop where
  blk : ∃ tv, w.heap[fb]? = some (.cells #[.map (some mb), .int .i64 h.nodes, .int .i64 h.bytes, .int .i64 h.held, .int .i64 h.next, tv] 100) ∧ OgR RAc ot tv T w
  mp : Mp MI mb (fun k => (q k).map fun _ => (L k).ib) cnt w
  nd : ∀ k p, q k = some p → NdH (L k) p w
  inj : ∀ k k' p p', q k = some p → q k' = some p' → k ≠ k' → (L k).ib ≠ (L k').ib ∧ (p.kind = 1 → p'.kind = 1 → (L k).eb ≠ (L k').eb) ∧ ∀ g, (L k).od = some g → (L k').od ≠ some g
  ebm : ∀ k p, q k = some p → p.kind = 1 → (L k).eb ≠ mb
variable {fb mb : Nat} {ot : Option Nat} {L : Int → Lay} {h : Hx} {q : Int → Option Pn} {cnt : Nat} {T : List Ac} {w w' : World} {X : Nat → Prop}
theorem FsH.kept (H : FsH fb mb ot L h q cnt T w) (f : Fr X w w') (hx : ∀ k, X k → ¬ Bk fb mb ot L q k) : FsH fb mb ot L h q cnt T w' := by
  obtain ⟨tv, h1, h2⟩ := H.blk
  refine ⟨⟨tv, f.heap h1 (fun e => hx fb e (.inl rfl)), h2.kept f (fun g hg e => hx g e (.inr (.inr (.inl hg))))⟩, H.mp.kept f (fun e => hx mb e (.inr (.inl rfl))), fun k p hp => (H.nd k p hp).kept f (fun e => hx _ e (.inr (.inr (.inr ⟨k, p, hp, .inl rfl⟩)))) (fun hk e => hx _ e (.inr (.inr (.inr ⟨k, p, hp, .inr (.inl ⟨hk, rfl⟩)⟩)))) (fun g hg e => hx _ e (.inr (.inr (.inr ⟨k, p, hp, .inr (.inr hg)⟩)))), H.inj, H.ebm⟩
theorem FsH.nw (H : FsH fb mb ot L h q cnt T w) (f : Nw w w') : FsH fb mb ot L h q cnt T w' := H.kept f (fun _ h => h.elim)
theorem FsH.lt (H : FsH fb mb ot L h q cnt T w) (k : Nat) (hk : Bk fb mb ot L q k) : k < w.heap.size := by
  obtain ⟨tv, h1, h2⟩ := H.blk
  rcases hk with rfl | rfl | hk | ⟨n, p, hp, hk⟩
  · exact blt h1
  · exact H.mp.lt
  · exact h2.lt k hk
  · obtain ⟨dv, ev, k1, k2, k3, k4⟩ := (H.nd n p hp).blk
    rcases hk with rfl | ⟨hk, rfl⟩ | hk
    · exact blt k1
    · exact (k3 hk).2.lt
    · rw [hk] at k2; exact OgB.lt k2
/-- What kinds of blocks there are. -/
theorem Ow.isBytes {g : Nat} {v : Value} {l : List By} {w : World} (h : Ow g v l w) : ∃ cs, w.heap[g]? = some (.cells cs 5) := by
  obtain ⟨xs, h1, h2, h3, h4, h5⟩ := h
  exact ⟨_, h5⟩
end Go.Proofs.YtcogkhcfpgelhaaGreat

namespace Go.Proofs.YtcogkhcfpgelhaaGreat
open Go.RowKit
set_option linter.unusedVariables false
set_option maxRecDepth 100000
/-! ### Blocks are told apart by what they are -/
def tg (w : World) (k : Nat) : Option Nat := match w.heap[k]? with
  | some (.cells _ T _) => some T
  | _ => none
theorem tg_cells {w : World} {k T : Nat} {cs : Array Value} (h : w.heap[k]? = some (.cells cs T)) : tg w k = some T := by
  unfold tg; rw [h]
theorem Mp.tg {κ ν : Type} {M : MT κ ν} {b : Nat} {m : κ → Option ν} {n : Nat} {w : World} (h : Mp M b m n w) : tg w b = none := by
  obtain ⟨es, c, e⟩ := h.isMap
  unfold Go.Proofs.YtcogkhcfpgelhaaGreat.tg; rw [e]
theorem OgB.tg {g : Nat} {v : Value} {l : List By} {w : World} (h : OgB (some g) v l w) : tg w g = some 5 := by
  obtain ⟨cs, e⟩ := Ow.isBytes h
  exact tg_cells e
theorem OgR.tg {α : Type} {R : RT α} {g : Nat} {v : Value} {l : List α} {w : World} (h : OgR R (some g) v l w) : tg w g = some R.T := by
  obtain ⟨xs, h1, h2, h3, h4, h5⟩ := (h : OwR R g v l w)
  exact tg_cells h5
variable {fb mb : Nat} {ot : Option Nat} {L : Int → Lay} {h : Hx} {q : Int → Option Pn} {cnt : Nat} {T : List Ac} {w w' : World} {X : Nat → Prop}
theorem FsH.tfb (H : FsH fb mb ot L h q cnt T w) : tg w fb = some 100 := by
  obtain ⟨tv, h1, h2⟩ := H.blk
  exact tg_cells h1
theorem FsH.tmb (H : FsH fb mb ot L h q cnt T w) : tg w mb = none := H.mp.tg
theorem FsH.tot (H : FsH fb mb ot L h q cnt T w) (g : Nat) (hg : ot = some g) : tg w g = some 129 := by
  obtain ⟨tv, h1, h2⟩ := H.blk
  subst hg
  exact h2.tg
theorem FsH.tib (H : FsH fb mb ot L h q cnt T w) {k : Int} {p : Pn} (hp : q k = some p) : tg w (L k).ib = some 104 := by
  obtain ⟨dv, ev, k1, k2, k3, k4⟩ := (H.nd k p hp).blk
  exact tg_cells k1
theorem FsH.teb (H : FsH fb mb ot L h q cnt T w) {k : Int} {p : Pn} (hp : q k = some p) (hk : p.kind = 1) : tg w (L k).eb = none := by
  obtain ⟨dv, ev, k1, k2, k3, k4⟩ := (H.nd k p hp).blk
  exact (k3 hk).2.tg
theorem FsH.tod (H : FsH fb mb ot L h q cnt T w) {k : Int} {p : Pn} (hp : q k = some p) (g : Nat) (hg : (L k).od = some g) : tg w g = some 5 := by
  obtain ⟨dv, ev, k1, k2, k3, k4⟩ := (H.nd k p hp).blk
  rw [hg] at k2
  exact k2.tg
theorem ntg {w : World} {a b : Nat} {s t : Option Nat} (ha : tg w a = s) (hb : tg w b = t) (hst : s ≠ t) : a ≠ b := fun e => hst (by rw [← ha, ← hb, e])
/-- One inode turned; its data may lie anew. -/
theorem FsH.turn (H : FsH fb mb ot L h q cnt T w) {n : Int} {p p' : Pn} (hp : q n = some p) (hk : p'.kind = p.kind) {od' : Option Nat} (ho : ∀ g, od' = some g → (L n).od = some g ∨ w.heap.size ≤ g) (f : Fr X w w') (hX : ∀ k, X k → k = (L n).ib ∨ p.kind = 1 ∧ k = (L n).eb ∨ (L n).od = some k)
    (hN : NdH ⟨(L n).ib, (L n).eb, od'⟩ p' w') : FsH fb mb ot (fun k => if k = n then ⟨(L n).ib, (L n).eb, od'⟩ else L k) h (fun k => if k = n then some p' else q k) cnt T w' := by
  obtain ⟨tv, h1, h2⟩ := H.blk
  have hXt : ∀ k, X k → tg w k = some 104 ∧ k = (L n).ib ∨ tg w k = none ∧ k = (L n).eb ∧ p.kind = 1 ∨ tg w k = some 5 ∧ (L n).od = some k := fun k hx => by
    rcases hX k hx with rfl | ⟨hk1, rfl⟩ | hk1
    · exact .inl ⟨H.tib hp, rfl⟩
    · exact .inr (.inl ⟨H.teb hp hk1, rfl, hk1⟩)
    · exact .inr (.inr ⟨H.tod hp k hk1, hk1⟩)
  refine ⟨⟨tv, f.heap h1 (fun e => ?_), h2.kept f (fun g hg e => ?_)⟩, (H.mp.kept f (fun e => ?_)).cong (fun k _ => ?_), fun k p2 hp2 => ?_, fun k k' p1 p2 hp1 hp2 hne => ?_, fun k p2 hp2 hk2 => ?_⟩
  · rcases hXt fb e with ⟨t, _⟩ | ⟨t, _, _⟩ | ⟨t, _⟩ <;> rw [H.tfb] at t <;> cases t
  · have ht := H.tot g hg
    rcases hXt g e with ⟨t, _⟩ | ⟨t, _, _⟩ | ⟨t, _⟩ <;> rw [ht] at t <;> cases t
  · rcases hXt mb e with ⟨t, _⟩ | ⟨_, t, hk1⟩ | ⟨t, _⟩
    · rw [H.tmb] at t; cases t
    · exact H.ebm n p hp hk1 t.symm
    · rw [H.tmb] at t; cases t
  · by_cases hkn : k = n
    · subst hkn
      simp only [if_true, hp]
      rfl
    · simp only [if_neg hkn]
  · by_cases hkn : k = n
    · subst hkn
      simp only [if_true, Option.some.injEq] at hp2 ⊢
      subst hp2
      exact hN
    · simp only [if_neg hkn] at hp2 ⊢
      have hi := H.inj k n p2 p hp2 hp hkn
      refine (H.nd k p2 hp2).kept f (fun e => ?_) (fun hk2 e => ?_) (fun g hg e => ?_)
      · rcases hXt _ e with ⟨_, t⟩ | ⟨t, _, _⟩ | ⟨t, _⟩
        · exact hi.1 t
        · rw [H.tib hp2] at t; cases t
        · rw [H.tib hp2] at t; cases t
      · rcases hXt _ e with ⟨t, _⟩ | ⟨_, t, hk1⟩ | ⟨t, _⟩
        · rw [H.teb hp2 hk2] at t; cases t
        · exact hi.2.1 hk2 hk1 t
        · rw [H.teb hp2 hk2] at t; cases t
      · have ht := H.tod hp2 g hg
        rcases hXt _ e with ⟨t, _⟩ | ⟨t, _, _⟩ | ⟨_, t⟩
        · rw [ht] at t; cases t
        · rw [ht] at t; cases t
        · exact hi.2.2 g hg t
  · have hod : ∀ j p3, q j = some p3 → j ≠ n → ∀ g, (L j).od = some g → od' ≠ some g := fun j p3 hj hjn g hg e => by
      rcases ho g e with e2 | hg2
      · exact (H.inj j n p3 p hj hp hjn).2.2 g hg e2
      · have := H.lt g (.inr (.inr (.inr ⟨j, p3, hj, .inr (.inr hg)⟩)))
        omega
    by_cases hkn : k = n
    · subst hkn
      have hk' : k' ≠ k := fun e => hne e.symm
      simp only [if_true, if_neg hk', Option.some.injEq] at hp1 hp2 ⊢
      subst hp1
      have hi := H.inj k k' p p2 hp hp2 hne
      refine ⟨hi.1, fun a b => hi.2.1 (hk ▸ a) b, fun g hg e => hod k' p2 hp2 hk' g e hg⟩
    · by_cases hkn' : k' = n
      · subst hkn'
        simp only [if_true, if_neg hkn, Option.some.injEq] at hp1 hp2 ⊢
        subst hp2
        have hi := H.inj k k' p1 p hp1 hp hne
        exact ⟨hi.1, fun a b => hi.2.1 a (hk ▸ b), fun g hg e => hod k p1 hp1 hkn g hg e⟩
      · simp only [if_neg hkn, if_neg hkn'] at hp1 hp2 ⊢
        exact H.inj k k' p1 p2 hp1 hp2 hne
  · by_cases hkn : k = n
    · subst hkn
      simp only [if_true, Option.some.injEq] at hp2 ⊢
      subst hp2
      exact H.ebm k p hp (hk ▸ hk2)
    · simp only [if_neg hkn] at hp2 ⊢
      exact H.ebm k p2 hp2 hk2
/-- The head turned: its own block alone, and maybe the trace's. -/
theorem FsH.head (H : FsH fb mb ot L h q cnt T w) (f : Fr X w w') (hX : ∀ k, X k → k = fb ∨ ot = some k) {h' : Hx} {T' : List Ac} {ot' : Option Nat} (ho : ot' = ot ∨ ∃ g, ot' = some g ∧ w.heap.size ≤ g) {tv : Value}
    (hb : w'.heap[fb]? = some (.cells #[.map (some mb), .int .i64 h'.nodes, .int .i64 h'.bytes, .int .i64 h'.held, .int .i64 h'.next, tv] 100)) (ht : OgR RAc ot' tv T' w') : FsH fb mb ot' L h' q cnt T' w' := by
  have hXt : ∀ k, X k → tg w k = some 100 ∨ tg w k = some 129 := fun k hx => by
    rcases hX k hx with rfl | hk1
    · exact .inl H.tfb
    · exact .inr (H.tot k hk1)
  refine ⟨⟨tv, hb, ht⟩, H.mp.kept f (fun e => ?_), fun k p2 hp2 => (H.nd k p2 hp2).kept f (fun e => ?_) (fun hk2 e => ?_) (fun g hg e => ?_), H.inj, H.ebm⟩
  · rcases hXt _ e with t | t <;> rw [H.tmb] at t <;> cases t
  · rcases hXt _ e with t | t <;> rw [H.tib hp2] at t <;> cases t
  · rcases hXt _ e with t | t <;> rw [H.teb hp2 hk2] at t <;> cases t
  · rcases hXt _ e with t | t <;> rw [H.tod hp2 g hg] at t <;> cases t
/-- Another inode, made since. -/
theorem FsH.more (H : FsH fb mb ot L h q cnt T w) {n : Int} (hn : q n = none) {p : Pn} {y : Lay} (f : Fr (fun k => k = mb) w w') {w0 : World} (hs : w0.heap.size ≤ w.heap.size) (hlow : ∀ k, Bk fb mb ot L q k → k < w0.heap.size) (hy : w0.heap.size ≤ y.ib ∧ (p.kind = 1 → w0.heap.size ≤ y.eb) ∧ ∀ g, y.od = some g → w0.heap.size ≤ g)
    (hN : NdH y p w') {cnt' : Nat} (hM : ∀ m, (∀ k, m k = if k = n then some y.ib else (q k).map fun _ => (L k).ib) → Mp MI mb m cnt' w') : FsH fb mb ot (fun k => if k = n then y else L k) h (fun k => if k = n then some p else q k) cnt' T w' := by
  obtain ⟨tv, h1, h2⟩ := H.blk
  have hb : ∀ k, k = mb → tg w k = none := fun k e => by rw [e]; exact H.tmb
  refine ⟨⟨tv, f.heap h1 (fun e => ?_), h2.kept f (fun g hg e => ?_)⟩, hM _ (fun k => ?_), fun k p2 hp2 => ?_, fun k k' p1 p2 hp1 hp2 hne => ?_, fun k p2 hp2 hk2 => ?_⟩
  · have := hb _ e; rw [H.tfb] at this; cases this
  · have := hb _ e; rw [H.tot g hg] at this; cases this
  · by_cases hkn : k = n
    · simp only [if_pos hkn]; rfl
    · simp only [if_neg hkn]
  · by_cases hkn : k = n
    · simp only [if_pos hkn, Option.some.injEq] at hp2 ⊢
      subst hp2; exact hN
    · simp only [if_neg hkn] at hp2 ⊢
      refine (H.nd k p2 hp2).kept f (fun e => ?_) (fun hk2 e => ?_) (fun g hg e => ?_)
      · have := hb _ e; rw [H.tib hp2] at this; cases this
      · exact H.ebm k p2 hp2 hk2 e
      · have := hb _ e; rw [H.tod hp2 g hg] at this; cases this
  · have old : ∀ j p3, q j = some p3 → (L j).ib < w0.heap.size ∧ (p3.kind = 1 → (L j).eb < w0.heap.size) ∧ ∀ g, (L j).od = some g → g < w0.heap.size := fun j p3 hj =>
      ⟨hlow _ (.inr (.inr (.inr ⟨j, p3, hj, .inl rfl⟩))), fun hk => hlow _ (.inr (.inr (.inr ⟨j, p3, hj, .inr (.inl ⟨hk, rfl⟩)⟩))), fun g hg => hlow _ (.inr (.inr (.inr ⟨j, p3, hj, .inr (.inr hg)⟩)))⟩
    by_cases hkn : k = n
    · have hk' : k' ≠ n := fun e => hne (hkn.trans e.symm)
      simp only [if_pos hkn, if_neg hk', Option.some.injEq] at hp1 hp2 ⊢
      subst hp1
      have ho := old k' p2 hp2
      refine ⟨by omega, fun a b => ?_, fun g hg e => ?_⟩
      · have := hy.2.1 a; have := ho.2.1 b; omega
      · have := hy.2.2 g hg; have := ho.2.2 g e; omega
    · by_cases hkn' : k' = n
      · simp only [if_pos hkn', if_neg hkn, Option.some.injEq] at hp1 hp2 ⊢
        subst hp2
        have ho := old k p1 hp1
        refine ⟨by omega, fun a b => ?_, fun g hg e => ?_⟩
        · have := hy.2.1 b; have := ho.2.1 a; omega
        · have := hy.2.2 g e; have := ho.2.2 g hg; omega
      · simp only [if_neg hkn, if_neg hkn'] at hp1 hp2 ⊢
        exact H.inj k k' p1 p2 hp1 hp2 hne
  · by_cases hkn : k = n
    · simp only [if_pos hkn, Option.some.injEq] at hp2 ⊢
      subst hp2
      have := hy.2.1 hk2
      have := hlow mb (.inr (.inl rfl))
      omega
    · simp only [if_neg hkn] at hp2 ⊢
      exact H.ebm k p2 hp2 hk2
/-- One inode fewer. -/
theorem FsH.less (H : FsH fb mb ot L h q cnt T w) (n : Int) (f : Fr (fun k => k = mb) w w') {cnt' : Nat} (hM : ∀ m, (∀ k, m k = if k = n then none else (q k).map fun _ => (L k).ib) → Mp MI mb m cnt' w') : FsH fb mb ot L h (fun k => if k = n then none else q k) cnt' T w' := by
  obtain ⟨tv, h1, h2⟩ := H.blk
  have hb : ∀ k, k = mb → tg w k = none := fun k e => by rw [e]; exact H.tmb
  have hq : ∀ k p, (if k = n then none else q k) = some p → q k = some p := fun k p hp => by
    by_cases hkn : k = n
    · rw [if_pos hkn] at hp; cases hp
    · rw [if_neg hkn] at hp; exact hp
  refine ⟨⟨tv, f.heap h1 (fun e => ?_), h2.kept f (fun g hg e => ?_)⟩, hM _ (fun k => ?_), fun k p2 hp2 => ?_, fun k k' p1 p2 hp1 hp2 hne => H.inj k k' p1 p2 (hq k p1 hp1) (hq k' p2 hp2) hne, fun k p2 hp2 hk2 => H.ebm k p2 (hq k p2 hp2) hk2⟩
  · have := hb _ e; rw [H.tfb] at this; cases this
  · have := hb _ e; rw [H.tot g hg] at this; cases this
  · by_cases hkn : k = n
    · simp only [if_pos hkn]; rfl
    · simp only [if_neg hkn]
  · have hp3 := hq k p2 hp2
    refine (H.nd k p2 hp3).kept f (fun e => ?_) (fun hk2 e => ?_) (fun g hg e => ?_)
    · have := hb _ e; rw [H.tib hp3] at this; cases this
    · exact H.ebm k p2 hp3 hk2 e
    · have := hb _ e; rw [H.tod hp3 g hg] at this; cases this
theorem FsH.congr (H : FsH fb mb ot L h q cnt T w) {q' : Int → Option Pn} (e : q' = q) : FsH fb mb ot L h q' cnt T w := by rw [e]; exact H
/-! ### A file system, wherever it lies -/
def FsP (fb mb : Nat) (B : Nat → Prop) (h : Hx) (q : Int → Option Pn) (cnt : Nat) (T : List Ac) (w : World) : Prop := ∃ ot L, FsH fb mb ot L h q cnt T w ∧ ∀ k, Bk fb mb ot L q k → B k
theorem FsP.kept {B : Nat → Prop} (H : FsP fb mb B h q cnt T w) (f : Fr X w w') (hx : ∀ k, X k → ¬ B k) : FsP fb mb B h q cnt T w' := by
  obtain ⟨ot, L, h1, h2⟩ := H
  exact ⟨ot, L, h1.kept f (fun k hk hb => hx k hk (h2 k hb)), h2⟩
theorem FsP.nw {B : Nat → Prop} (H : FsP fb mb B h q cnt T w) (f : Nw w w') : FsP fb mb B h q cnt T w' := H.kept f (fun _ h => h.elim)
theorem FsP.mono {B B' : Nat → Prop} (H : FsP fb mb B h q cnt T w) (hb : ∀ k, B k → B' k) : FsP fb mb B' h q cnt T w := by
  obtain ⟨ot, L, h1, h2⟩ := H
  exact ⟨ot, L, h1, fun k hk => hb k (h2 k hk)⟩
/-- What came since. -/
abbrev Since (B : Nat → Prop) (w w' : World) (k : Nat) : Prop := B k ∨ (w.heap.size ≤ k ∧ k < w'.heap.size)
end Go.Proofs.YtcogkhcfpgelhaaGreat
