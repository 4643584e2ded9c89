import Derived.Test.YtcogkhcfpgelhabGreatVfM
import Derived.Test.YtcogkhcfpgelhabGreatVfA
import Derived.Test.YtcogkhcfpgelhabGreatPtC
import Derived.StringKeys
namespace Go.Proofs.YtcogkhcfpgelhabGreat
open Go.RowKit
set_option linter.unusedVariables false
set_option maxRecDepth 100000
theorem rc {w : World} {rb : Nat} {a : Array Value} {T : Nat} (h : w.heap[rb]? = some (.cells a T)) (j : Nat) (v : Value) (hv : a[j]? = some v) : w.cell? ⟨rb, j, none⟩ = some v ∧ w.frozen? ⟨rb, j, none⟩ = false := by
  constructor <;> simp [World.cell?, World.frozen?, h, hv]
theorem nh (w : World) (o : Obj) : (w.alloc o).heap[w.heap.size]? = some o := by
  show (w.heap.push _)[w.heap.size]? = _
  simp
theorem blt {w : World} {g : Nat} {o : Obj} (h : w.heap[g]? = some o) : g < w.heap.size := (Array.getElem?_eq_some_iff.1 h).1
theorem Fr.heap {X : Nat → Prop} {w w' : World} (f : Fr X w w') {g : Nat} {o : Obj} (h : w.heap[g]? = some o) (hx : ¬ X g) : w'.heap[g]? = some o := (f.block g (blt h) hx).trans h
/-! ### The maps of inodes and of entries -/
def Rptr : Value → Option (DataW Unit × List MemPlace)
  | .pointer (some ⟨g, 0, none⟩) => some (.lit (.int .i64 g), [])
  | .pointer none => some (.lit (.bool false), [])
  | _ => none
theorem Rptr_inv {u : Value} {g : Nat} {ps : List MemPlace} (h : Rptr u = some (.lit (.int .i64 g), ps)) : u = .pointer (some ⟨g, 0, none⟩) := by
  unfold Rptr at h
  split at h
  · simp only [Option.some.injEq, Prod.mk.injEq] at h
    obtain ⟨h, _⟩ := h
    injection h with h
    injection h with _ h
    rw [Int.ofNat.inj h]
  · simp only [Option.some.injEq, Prod.mk.injEq] at h
    obtain ⟨h, _⟩ := h
    injection h with h
    cases h
  · cases h
theorem Rptr_nil {u : Value} {ps : List MemPlace} (h : Rptr u = some (.lit (.bool false), ps)) : u = .pointer none := by
  unfold Rptr at h
  split at h
  · simp only [Option.some.injEq, Prod.mk.injEq] at h
    obtain ⟨h, _⟩ := h
    injection h with h
    cases h
  · rfl
  · cases h
def MI : MT Int Nat := { kt := 3, et := 88, mt := 80, kv := fun k => .int .i64 k, kl := fun k => .int .i64 k, kok := I64, ev := fun g => .pointer (some ⟨g, 0, none⟩), ed := fun g => .lit (.int .i64 g), eok := fun _ => True, zv := .pointer none, zd := .lit (.bool false), R := Rptr }
theorem miOk : MI.Ok where
  keyed := Maps.int_keyed Tryz.underlying3
  und := Tryz.underlying80
  keq := fun k hk => Maps.keyOf_int_mk Tryz.underlying3 (i64wf hk.1 hk.2)
  kinj := fun k k' _ _ h => by simp only [MI] at h; injection h
  eR := fun v _ => rfl
  einv := fun u v ps _ h => Rptr_inv h
  zR := rfl
  zinv := fun u ps h => Rptr_nil h
  zero := fun w => by kernel_rfl
def Rint : Value → Option (DataW Unit × List MemPlace)
  | .int .i64 a => some (.lit (.int .i64 a), [])
  | _ => none
theorem Rint_inv {u : Value} {g : Int} {ps : List MemPlace} (h : Rint u = some (.lit (.int .i64 g), ps)) : u = .int .i64 g := by
  unfold Rint at h
  split at h
  · simp only [Option.some.injEq, Prod.mk.injEq] at h
    obtain ⟨h, _⟩ := h
    injection h with h
    injection h with _ h
    rw [h]
  · cases h
def ME : MT Tx Int := { kt := 9, et := 3, mt := 89, kv := fun k => .string (mk k), kl := fun k => .string k, kok := fun k => k.length ≤ 140737488351232, ev := fun g => .int .i64 g, ed := fun g => .lit (.int .i64 g), eok := fun _ => True, zv := .int .i64 0, zd := .lit (.int .i64 0), R := Rint }
theorem meOk : ME.Ok where
  keyed := Maps.string_keyed Tryz.underlying9
  und := Tryz.underlying89
  keq := fun k hk => by
    have := WideMaps.keyOf_string_mk (P := Tryz.prog) (k := 9) Tryz.underlying9 (s := mk k) (by rw [mk_size]; simp only [ME] at hk; unfold maxLen; omega)
    exact this
  kinj := fun k k' _ _ h => by simp only [ME] at h; injection h
  eR := fun v hv => rfl
  einv := fun u v ps _ h => Rint_inv h
  zR := rfl
  zinv := fun u ps h => Rint_inv h
  zero := fun w => by kernel_rfl
/-! ### Acts in memory -/
def RAc : RT Ac := { enc := fun x => [.int .i64 x.op, .int .i64 x.dir, .string (mk x.name), .int .i64 x.node, .int .i64 x.too, .string (mk x.other), .int .i64 x.pl, .int .i64 x.n], k := 8, T := 51, TS := 48, z := ⟨0, 0, [], 0, 0, [], 0, 0⟩, by_ := 80 }
theorem racOk : RAc.Ok := by
  refine ⟨fun _ => rfl, by decide, fun x v hv => ?_, Tryz.underlying48, ?_⟩
  · simp only [RAc, List.mem_cons, List.mem_nil_iff, or_false] at hv
    rcases hv with rfl | rfl | rfl | rfl | rfl | rfl | rfl | rfl <;> rfl
  · have h : (Tryz.prog.info? 51).map (fun i => (i.zero, i.size, i.bytes)) = some (some (.agg #[.int .i64 0, .int .i64 0, .string ⟨#[]⟩, .int .i64 0, .int .i64 0, .string ⟨#[]⟩, .int .i64 0, .int .i64 0]), 8, 80) := by kernel_rfl
    cases hq : Tryz.prog.info? 51 with
    | none => simp [hq] at h
    | some i => simp [hq] at h; exact ⟨i, _, hq, h.1, h.2.1, h.2.2, rfl⟩
/-! ### Inodes in memory -/
structure Pn where
  kind : Int
  mt : Mt
  data : List By
  tgt : Tx
  ents : Tx → Option Int
  ne : Nat
  links : Int
  up : Int
structure Lay where
  ib : Nat
  eb : Nat
  od : Option Nat
def OgB (od : Option Nat) (v : Value) (l : List By) (w : World) : Prop := match od with | none => v = .slice none 0 0 ∧ l = [] | some g => Ow g v l w
theorem OgB.kept {od : Option Nat} {v : Value} {l : List By} {w w' : World} {X : Nat → Prop} (h : OgB od v l w) (f : Fr X w w') (hx : ∀ g, od = some g → ¬ X g) : OgB od v l w' := by
  cases od with
  | none => exact h
  | some g => exact Ow.kept h f (hx g rfl)
theorem OgB.nw {od : Option Nat} {v : Value} {l : List By} {w w' : World} (h : OgB od v l w) (f : Nw w w') : OgB od v l w' := h.kept f (fun _ _ h => h)
theorem OgB.lt {g : Nat} {v : Value} {l : List By} {w : World} (h : OgB (some g) v l w) : g < w.heap.size := Ow.lt h
theorem OgB.form {od : Option Nat} {v : Value} {l : List By} {w : World} (h : OgB od v l w) : ∃ a c, v = .slice a l.length c ∧ l.length ≤ c ∧ c < 9223372036854775808 := by
  cases od with
  | none => exact ⟨none, 0, by rw [h.1, h.2]; rfl, by rw [h.2]; simp, by decide⟩
  | some g => obtain ⟨xs, h1, h2, h3, h4, h5⟩ := h; exact ⟨_, _, h1, h3, h4⟩
theorem OgB.sl {od : Option Nat} {v : Value} {l : List By} {w : World} (h : OgB od v l w) : Sl (fun k => od ≠ some k) v l w := by
  cases od with
  | none => exact .inl ⟨none, h.1, h.2⟩
  | some g => exact .inr ⟨g, fun e => e rfl, Ow.slb h⟩
abbrev ndC (p : Pn) (dv ev : Value) : Array Value := #[.int .i64 p.kind, .int .u32 p.mt.mode, .int .u32 p.mt.uid, .int .u32 p.mt.gid, .int .i64 p.mt.time, .int .i32 p.mt.nano, dv, .string (mk p.tgt), ev, .int .i64 p.links, .int .i64 p.up]
structure NdH (y : Lay) (p : Pn) (w : World) : Prop where
  blk : ∃ dv ev, w.heap[y.ib]? = some (.cells (ndC p dv ev) 91) ∧ OgB y.od dv p.data w ∧ (p.kind = 1 → ev = .map (some y.eb) ∧ Mp ME y.eb p.ents p.ne w) ∧ (p.kind ≠ 1 → ev = .map none ∧ p.ne = 0 ∧ ∀ s, p.ents s = none)
theorem NdH.kept {y : Lay} {p : Pn} {w w' : World} {X : Nat → Prop} (h : NdH y p w) (f : Fr X w w') (h1 : ¬ X y.ib) (h2 : p.kind = 1 → ¬ X y.eb) (h3 : ∀ g, y.od = some g → ¬ X g) : NdH y p w' := by
  obtain ⟨dv, ev, k1, k2, k3, k4⟩ := h.blk
  exact ⟨dv, ev, f.heap k1 h1, k2.kept f h3, fun hk => ⟨(k3 hk).1, (k3 hk).2.kept f (h2 hk)⟩, k4⟩
theorem NdH.nw {y : Lay} {p : Pn} {w w' : World} (h : NdH y p w) (f : Nw w w') : NdH y p w' := h.kept f (fun h => h) (fun _ h => h) (fun _ _ h => h)
structure Hx where
  nodes : Int
  bytes : Int
  held : Int
  next : Int
/-- The blocks of a file system. -/
def Bk (fb mb : Nat) (ot : Option Nat) (L : Int → Lay) (q : Int → Option Pn) (k : Nat) : Prop := k = fb ∨ k = mb ∨ ot = some k ∨ ∃ n p, q n = some p ∧ (k = (L n).ib ∨ p.kind = 1 ∧ k = (L n).eb ∨ (L n).od = some k)
structure FsH (fb mb : Nat) (ot : Option Nat) (L : Int → Lay) (h : Hx) (q : Int → Option Pn) (cnt : Nat) (T : List Ac) (w : World) : Prop where
  blk : ∃ tv, w.heap[fb]? = some (.cells #[.map (some mb), .int .i64 h.nodes, .int .i64 h.bytes, .int .i64 h.held, .int .i64 h.next, tv] 82) ∧ OgR RAc ot tv T w
  mp : Mp MI mb (fun k => (q k).map fun _ => (L k).ib) cnt w
  nd : ∀ k p, q k = some p → NdH (L k) p w
  inj : ∀ k k' p p', q k = some p → q k' = some p' → k ≠ k' → (L k).ib ≠ (L k').ib ∧ (p.kind = 1 → p'.kind = 1 → (L k).eb ≠ (L k').eb) ∧ ∀ g, (L k).od = some g → (L k').od ≠ some g
  ebm : ∀ k p, q k = some p → p.kind = 1 → (L k).eb ≠ mb
variable {fb mb : Nat} {ot : Option Nat} {L : Int → Lay} {h : Hx} {q : Int → Option Pn} {cnt : Nat} {T : List Ac} {w w' : World} {X : Nat → Prop}
theorem FsH.kept (H : FsH fb mb ot L h q cnt T w) (f : Fr X w w') (hx : ∀ k, X k → ¬ Bk fb mb ot L q k) : FsH fb mb ot L h q cnt T w' := by
  obtain ⟨tv, h1, h2⟩ := H.blk
  refine ⟨⟨tv, f.heap h1 (fun e => hx fb e (.inl rfl)), h2.kept f (fun g hg e => hx g e (.inr (.inr (.inl hg))))⟩, H.mp.kept f (fun e => hx mb e (.inr (.inl rfl))), fun k p hp => (H.nd k p hp).kept f (fun e => hx _ e (.inr (.inr (.inr ⟨k, p, hp, .inl rfl⟩)))) (fun hk e => hx _ e (.inr (.inr (.inr ⟨k, p, hp, .inr (.inl ⟨hk, rfl⟩)⟩)))) (fun g hg e => hx _ e (.inr (.inr (.inr ⟨k, p, hp, .inr (.inr hg)⟩)))), H.inj, H.ebm⟩
theorem FsH.nw (H : FsH fb mb ot L h q cnt T w) (f : Nw w w') : FsH fb mb ot L h q cnt T w' := H.kept f (fun _ h => h.elim)
theorem FsH.lt (H : FsH fb mb ot L h q cnt T w) (k : Nat) (hk : Bk fb mb ot L q k) : k < w.heap.size := by
  obtain ⟨tv, h1, h2⟩ := H.blk
  rcases hk with rfl | rfl | hk | ⟨n, p, hp, hk⟩
  · exact blt h1
  · exact H.mp.lt
  · exact h2.lt k hk
  · obtain ⟨dv, ev, k1, k2, k3, k4⟩ := (H.nd n p hp).blk
    rcases hk with rfl | ⟨hk, rfl⟩ | hk
    · exact blt k1
    · exact (k3 hk).2.lt
    · rw [hk] at k2; exact OgB.lt k2
/-- What kinds of blocks there are. -/
theorem Ow.isBytes {g : Nat} {v : Value} {l : List By} {w : World} (h : Ow g v l w) : ∃ cs, w.heap[g]? = some (.cells cs 5) := by
  obtain ⟨xs, h1, h2, h3, h4, h5⟩ := h
  exact ⟨_, h5⟩
end Go.Proofs.YtcogkhcfpgelhabGreat
