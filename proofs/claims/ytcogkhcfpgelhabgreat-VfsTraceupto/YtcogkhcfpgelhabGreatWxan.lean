import Derived.Test.YtcogkhcfpgelhabGreatWxad
import Derived.Test.YtcogkhcfpgelhabGreatWxal
import Derived.Test.YtcogkhcfpgelhabGreatWxak
import Derived.Carry
import Derived.Test.YtcogkhcfpgelhabGreatVgC
namespace Go.Proofs.YtcogkhcfpgelhabGreat
open Go.RowKit
set_option linter.unusedVariables false
set_option maxRecDepth 100000
variable {fb mb : Nat} {ot : Option Nat} {L : Int → Lay} {h : Hx} {q : Int → Option Pn} {cnt : Nat} {T : List Ac} {w w' : World} {X : Nat → Prop}
/-- What List answers. -/
def LsfO (q : Int → Option Pn) (d : Int) (es : List (Tx × Int)) (w : World) (e : Ending) (w' : World) : Prop :=
  (dirE q d ≠ 0 ∧ e = .returned (.tuple #[.slice none 0 0, .int .i64 (dirE q d)]) ∧ Nw w w') ∨
  (dirE q d = 0 ∧ ∃ og a c, e = .returned (.tuple #[.slice a es.length c, .int .i64 0]) ∧ OgR RNm og (.slice a es.length c) es w' ∧ Nw w w' ∧ ∀ g, og = some g → w.heap.size ≤ g)
set_option maxHeartbeats 4000000 in
theorem listF_any (hS : SortC) (H : FsH fb mb ot L h q cnt T w) (d : Int) (hd64 : I64 d) (es : List (Tx × Int)) (hE : ∀ p, q d = some p → p.kind = 1 → Ents ME p.ents p.ne es ∧ p.ne ≤ 1000000) (hs : es.Pairwise (fun x y => lt x.1 y.1 = true)) :
    Calls Tryz.prog 20 #[.pointer (some ⟨fb, 0, none⟩), .int .i64 d] w (LsfO q d es w) := by
  obtain ⟨P, hP⟩ : ∃ P : Ending → World → Prop, P = LsfO q d es w := ⟨_, rfl⟩
  rw [← hP]
  have CD := tHid (directory_any H d hd64)
  by_cases he : dirE q d = 0
  · have hq : ∃ p, q d = some p ∧ p.kind = 1 := by
      unfold dirE at he
      cases hq : q d with
      | none => rw [hq] at he; cases he
      | some p =>
        rw [hq] at he
        by_cases hk : p.kind = 1
        · exact ⟨p, rfl, hk⟩
        · simp [hk] at he
    obtain ⟨p, hq, hk⟩ := hq
    have e2 : dirV L q d = .pointer (some ⟨(L d).ib, 0, none⟩) := by unfold dirV; rw [if_pos he]
    rw [he, e2] at CD
    have HL : Hid (Calls Tryz.prog 41 #[.pointer (some ⟨(L d).ib, 0, none⟩)] w fun e w' => ∃ a c, e = .returned (.slice a es.length c) ∧ Hid (P (.returned (.tuple #[.slice a es.length c, .int .i64 0])) w')) := by
      refine Calls.mono (list_dir hS H hq hk es (hE p hq hk).1 hs (hE p hq hk).2) ?_
      rintro e w' ⟨og, a, c, rfl, o1, o2, o3⟩
      refine ⟨a, c, rfl, ?_⟩
      show P _ _
      rw [hP]
      exact .inr ⟨he, og, a, c, rfl, o1, o2, o3⟩
    clear H hP hE hs hS hq hk he e2
    generalize (L d).ib = ib at *
    generalize es.length = n at *
    go_enter Tryz.func20, Tryz.ntmps20
    go_wp2_with (first
      | (go_at_call 48; with_reducible refine CD.out.mono ?_; rintro e w2 ⟨rfl, rfl⟩)
      | (go_at_call 41; with_reducible refine HL.out.mono ?_; rintro e w3 ⟨a, c, rfl, HF⟩))
    exact HF.out
  · have HF : Hid (P (.returned (.tuple #[.slice none 0 0, .int .i64 (dirE q d)])) w) := by rw [hP]; exact .inl ⟨he, rfl, Fr.refl _ _⟩
    have e2 : dirV L q d = .pointer none := by unfold dirV; rw [if_neg he]
    rw [e2] at CD
    have heb : (dirE q d != 0) = true := by simp [he]
    clear H hP hE hs hS e2
    generalize dirE q d = de at *
    go_enter Tryz.func20, Tryz.ntmps20
    go_wp2_with (first
      | (go_at_call 48; with_reducible refine CD.out.mono ?_; rintro e w2 ⟨rfl, rfl⟩))
    exact HF.out
end Go.Proofs.YtcogkhcfpgelhabGreat

namespace Go.Proofs.YtcogkhcfpgelhabGreat
open Go.RowKit
set_option linter.unusedVariables false
set_option maxRecDepth 100000
variable {fb mb : Nat} {ot : Option Nat} {L : Int → Lay} {T : List Ac} {w w' V : World} {X : Im}
/-! ### A call that is asked for -/
structure Oq where
  kind : Int
  on : Bool
  dir : Int
  name : Tx
  node : Int
  too : Int
  other : Tx
  tgt : Tx
  mt : Mt
  pl : Int
  n : Int
  b : List By
  bs : S3
  xn : Int
  xb : Int
  xx : Int
  xs : S3
abbrev opC (o : Oq) : Array Value := #[.int .i64 o.kind, .bool o.on, .int .i64 o.dir, .string (mk o.name), .int .i64 o.node, .int .i64 o.too, .string (mk o.other), .string (mk o.tgt), .int .u32 o.mt.mode, .int .u32 o.mt.uid, .int .u32 o.mt.gid, .int .i64 o.mt.time, .int .i32 o.mt.nano, .int .i64 o.pl, .int .i64 o.n, .slice o.bs.a o.bs.n o.bs.c, .int .i64 o.xn, .int .i64 o.xb, .int .i64 o.xx, .slice o.xs.a o.xs.n o.xs.c]
structure OqW (o : Oq) : Prop where
  d64 : I64 o.dir
  n64 : I64 o.node
  t64 : I64 o.too
  p64 : I64 o.pl
  nl : o.name.length ≤ 140737488351232
  ol : o.other.length ≤ 140737488351232
  tl : o.tgt.length ≤ 140737488351232
  bl : o.b.length ≤ 140737488351232
def lstR (X : Im) (d : Int) : Int := if dirE (qOf X.l) d = 0 then ((((get X.l d).map (·.ents.length)).getD 0 : Nat) : Int) else 0
def staR (X : Im) (n : Int) : Int × Int := match qOf X.l n with | none => (0, 100) | some p => (p.links, 0)
noncomputable def opR (X : Im) (o : Oq) : Rs :=
  if o.kind = 1 then addR X 1 o.dir o.name 1 o.mt [] else if o.kind = 2 then addR X 2 o.dir o.name 2 o.mt [] else if o.kind = 3 then addR X 3 o.dir o.name 3 o.mt o.tgt
  else if o.kind = 4 then lnkR X o.dir o.name o.node else if o.kind = 5 then wrR X o.node o.pl o.b else if o.kind = 6 then rszR X o.node o.n
  else if o.kind = 7 then remR X 7 o.dir o.name false else if o.kind = 8 then remR X 8 o.dir o.name true else if o.kind = 9 then rnR X o.dir o.name o.too o.other
  else if o.kind = 10 then chR X o.node o.mt else if o.kind = 11 then ⟨(fndQ (qOf X.l) o.dir o.name).1, (fndQ (qOf X.l) o.dir o.name).2, X, []⟩ else if o.kind = 12 then ⟨(upQ (qOf X.l) o.dir).1, (upQ (qOf X.l) o.dir).2, X, []⟩
  else if o.kind = 13 then ⟨lstR X o.dir, dirE (qOf X.l) o.dir, X, []⟩ else if o.kind = 14 then ⟨(staR X o.node).1, (staR X o.node).2, X, []⟩ else ⟨0, 0, X, []⟩
theorem opR_good (hX : WF X) (o : Oq) : WF (opR X o).X ∧ totE (opR X o).X.l ≤ totE X.l + 1 := by
  unfold opR
  by_cases h1 : o.kind = 1
  · rw [if_pos h1]; exact addR_good hX 1 _ _ 1 (.inl rfl) _ _ (fun _ => rfl)
  rw [if_neg h1]
  by_cases h2 : o.kind = 2
  · rw [if_pos h2]; exact addR_good hX 2 _ _ 2 (.inr (.inl rfl)) _ _ (fun _ => rfl)
  rw [if_neg h2]
  by_cases h3 : o.kind = 3
  · rw [if_pos h3]; exact addR_good hX 3 _ _ 3 (.inr (.inr rfl)) _ _ (fun h => absurd rfl h)
  rw [if_neg h3]
  by_cases h4 : o.kind = 4
  · rw [if_pos h4]; exact lnkR_good hX _ _ _
  rw [if_neg h4]
  by_cases h5 : o.kind = 5
  · rw [if_pos h5]; exact wrR_good hX _ _ _
  rw [if_neg h5]
  by_cases h6 : o.kind = 6
  · rw [if_pos h6]; exact rszR_good hX _ _
  rw [if_neg h6]
  by_cases h7 : o.kind = 7
  · rw [if_pos h7]; exact remR_good hX 7 _ _ _
  rw [if_neg h7]
  by_cases h8 : o.kind = 8
  · rw [if_pos h8]; exact remR_good hX 8 _ _ _
  rw [if_neg h8]
  by_cases h9 : o.kind = 9
  · rw [if_pos h9]; exact rnR_good hX _ _ _ _
  rw [if_neg h9]
  by_cases h10 : o.kind = 10
  · rw [if_pos h10]; exact chR_good hX _ _
  rw [if_neg h10]
  by_cases h11 : o.kind = 11
  · rw [if_pos h11]; exact ⟨hX, Nat.le_succ _⟩
  rw [if_neg h11]
  by_cases h12 : o.kind = 12
  · rw [if_pos h12]; exact ⟨hX, Nat.le_succ _⟩
  rw [if_neg h12]
  by_cases h13 : o.kind = 13
  · rw [if_pos h13]; exact ⟨hX, Nat.le_succ _⟩
  rw [if_neg h13]
  by_cases h14 : o.kind = 14
  · rw [if_pos h14]; exact ⟨hX, Nat.le_succ _⟩
  rw [if_neg h14]
  exact ⟨hX, Nat.le_succ _⟩
theorem opo_from {R : Rs} (f : Nw w V) (h : OpO fb mb ot L X T R V w') : OpO fb mb ot L X T R w w' := by
  obtain ⟨ot', L', h1, h2, h3⟩ := h
  have := f.size
  exact ⟨ot', L', h1, f.any.trans h2, fun k hk => (h3 k hk).imp id (fun h => by omega)⟩
/-- The entries of a directory of an image, as its map has them. -/
theorem wf_ents (hX : WF X) {x : Nd} (hx : x ∈ X.l) : Ents ME (entL x.ents) x.ents.length x.ents := by
  have hs := hX.esrt x hx
  refine ⟨rfl, ?_, fun e he => ⟨?_, entL_mem hs he⟩⟩
  · rw [List.nodup_iff_pairwise_ne, List.pairwise_map]
    exact hs.imp (fun {a b} h e => by rw [e, lt_irrefl] at h; cases h)
  · have hn := (hX.es x hx e he).1
    unfold nmOk at hn
    simp only [Bool.and_eq_true, decide_eq_true_eq] at hn
    show e.1.length ≤ _
    have := hn.1.1.1.1.2
    omega
end Go.Proofs.YtcogkhcfpgelhabGreat

namespace Go.Proofs.YtcogkhcfpgelhabGreat
open Go.RowKit
set_option linter.unusedVariables false
set_option maxRecDepth 100000
variable {fb mb : Nat} {ot : Option Nat} {L : Int → Lay} {T : List Ac} {w w' V : World} {X : Im} {o : Oq}
def CaO (fb mb : Nat) (ot : Option Nat) (L : Int → Lay) (X : Im) (T : List Ac) (R : Rs) (w : World) (e : Ending) (w' : World) : Prop := e = .returned (.tuple #[.int .i64 R.n, .int .i64 R.e]) ∧ OpO fb mb ot L X T R w w'
structure CaH (fb mb : Nat) (ot : Option Nat) (L : Int → Lay) (X : Im) (T : List Ac) (o : Oq) (w : World) : Prop where
  wf : WF X
  tot : totE X.l ≤ 1000000
  fs : FsH fb mb ot L (hOf X) (qOf X.l) X.l.length T w
  tr : T.length ≤ 1000000000000
  ok : OqW o
  bn : o.bs.n = o.b.length
  bsl : Sl (fun _ => False) (.slice o.bs.a o.bs.n o.bs.c) o.b w
theorem CaH.nw (C : CaH fb mb ot L X T o w) (f : Nw w V) : CaH fb mb ot L X T o V := { C with fs := C.fs.nw f, bsl := C.bsl.nw f }
theorem CaH.few (C : CaH fb mb ot L X T o w) : Few X := few_of (by have := C.tot; omega)
theorem two_of {R : Rs} {e : Ending} (f : Nw w V) (h1 : e = .returned (.tuple #[.int .i64 R.n, .int .i64 R.e])) (h2 : OpO fb mb ot L X T R V w') : ∃ a b, e = .returned (.tuple #[.int .i64 a, .int .i64 b]) ∧ Hid (CaO fb mb ot L X T R w (.returned (.tuple #[.int .i64 a, .int .i64 b])) w') := ⟨_, _, h1, rfl, opo_from f h2⟩
theorem one_of {R : Rs} {e : Ending} (f : Nw w V) (h0 : R.n = 0) (h1 : e = .returned (.int .i64 R.e)) (h2 : OpO fb mb ot L X T R V w') : ∃ b, e = .returned (.int .i64 b) ∧ Hid (CaO fb mb ot L X T R w (.returned (.tuple #[.int .i64 0, .int .i64 b])) w') := ⟨_, h1, by rw [h0], opo_from f h2⟩
theorem opC_cell (w : World) (o : Oq) : ∀ j v, (opC o)[j]? = some v → (w.alloc (.cells (opC o) 40)).cell? ⟨w.heap.size, j, none⟩ = some v := fun j v hv => (rc (nh w _) j v hv).1
theorem lnkR_n (d : Int) (s : Tx) (n : Int) : (lnkR X d s n).n = 0 := by unfold lnkR; split <;> rfl
theorem remR_n (op d : Int) (s : Tx) (b : Bool) : (remR X op d s b).n = 0 := by unfold remR; split <;> rfl
theorem rszR_n (n s : Int) : (rszR X n s).n = 0 := by unfold rszR; split <;> rfl
theorem wrR_n (n pl : Int) (b : List By) : (wrR X n pl b).n = 0 := by unfold wrR; split <;> rfl
theorem chR_n (n : Int) (m : Mt) : (chR X n m).n = 0 := by unfold chR; split <;> rfl
theorem rnR_n (d : Int) (s : Tx) (t : Int) (s2 : Tx) : (rnR X d s t s2).n = 0 := by unfold rnR; split <;> rfl
theorem wf_next (hX : WF X) : qOf X.l (hOf X).next = none := by
  show qOf X.l X.next = none
  unfold qOf
  rw [get_fresh hX.nums]; rfl
set_option maxHeartbeats 4000000 in
theorem calls1 (C : CaH fb mb ot L X T o w) (hk : o.kind = 1) : Calls Tryz.prog 12 #[.pointer (some ⟨fb, 0, none⟩), .agg (opC o)] w (CaO fb mb ot L X T (addR X 1 o.dir o.name 1 o.mt []) w) := by
  obtain ⟨V, hV⟩ : ∃ V, V = w.alloc (.cells (opC o) 40) := ⟨_, rfl⟩
  have hN : Nw w V := by rw [hV]; exact (Fr.refl _ _).alloc _
  have CV := C.nw hN
  have HA : Hid (Calls Tryz.prog 25 #[.pointer (some ⟨fb, 0, none⟩), .int .i64 o.dir, .string (mk o.name), mtV o.mt] V fun e w' => ∃ a b, e = .returned (.tuple #[.int .i64 a, .int .i64 b]) ∧ Hid (CaO fb mb ot L X T (addR X 1 o.dir o.name 1 o.mt []) w (.returned (.tuple #[.int .i64 a, .int .i64 b])) w')) := by
    refine Calls.mono (mkdir_any CV.fs (wf_next C.wf) ⟨by have := C.wf.x1; show 0 ≤ X.next; omega, C.wf.x2⟩ (by have := CV.tr; omega) (by have := wf_cnt C.wf; omega) _ C.ok.d64 _ C.ok.nl (wf_zero C.wf _ _) (wf_ne C.few _) o.mt) (fun e w' hh => ?_)
    obtain ⟨h1, h2⟩ := addO_X C.wf CV.fs hh
    exact two_of hN h1 h2
  have hc := opC_cell w o
  rw [← hV] at hc
  have HV := tHid hV
  clear hV CV hN
  obtain ⟨P, hP⟩ : ∃ P : Ending → World → Prop, P = CaO fb mb ot L X T (addR X 1 o.dir o.name 1 o.mt []) w := ⟨_, rfl⟩
  rw [← hP] at HA ⊢
  clear hP C
  obtain ⟨kind, on, dir, name, node, too, other, tgt, mt, pl, n, b, bs, xn, xb, xx, xs⟩ := o
  obtain ⟨ba, bn, bc⟩ := bs
  obtain ⟨xa, xsn, xsc⟩ := xs
  simp only at hk HA hc HV ⊢
  subst hk
  have c0 := hc 0 _ rfl
  have c2 := hc 2 _ rfl
  have c3 := hc 3 _ rfl
  have c8 := hc 8 _ rfl
  have c9 := hc 9 _ rfl
  have c10 := hc 10 _ rfl
  have c11 := hc 11 _ rfl
  have c12 := hc 12 _ rfl
  clear hc
  unfold mtV at *
  go_enter Tryz.func12, Tryz.ntmps12
  go_upto_region 1 with fail
  rw [← HV.out]
  clear HV
  go_wp2_with (first | (go_at_call 25; with_reducible refine HA.out.mono ?_; rintro e w5 ⟨a, b, rfl, H5⟩))
  exact H5.out
set_option maxHeartbeats 4000000 in
theorem calls2 (C : CaH fb mb ot L X T o w) (hk : o.kind = 2) : Calls Tryz.prog 12 #[.pointer (some ⟨fb, 0, none⟩), .agg (opC o)] w (CaO fb mb ot L X T (addR X 2 o.dir o.name 2 o.mt []) w) := by
  obtain ⟨V, hV⟩ : ∃ V, V = w.alloc (.cells (opC o) 40) := ⟨_, rfl⟩
  have hN : Nw w V := by rw [hV]; exact (Fr.refl _ _).alloc _
  have CV := C.nw hN
  have HA : Hid (Calls Tryz.prog 26 #[.pointer (some ⟨fb, 0, none⟩), .int .i64 o.dir, .string (mk o.name), mtV o.mt] V fun e w' => ∃ a b, e = .returned (.tuple #[.int .i64 a, .int .i64 b]) ∧ Hid (CaO fb mb ot L X T (addR X 2 o.dir o.name 2 o.mt []) w (.returned (.tuple #[.int .i64 a, .int .i64 b])) w')) := by
    refine Calls.mono (create_any CV.fs (wf_next C.wf) ⟨by have := C.wf.x1; show 0 ≤ X.next; omega, C.wf.x2⟩ (by have := CV.tr; omega) (by have := wf_cnt C.wf; omega) _ C.ok.d64 _ C.ok.nl (wf_zero C.wf _ _) (wf_ne C.few _) o.mt) (fun e w' hh => ?_)
    obtain ⟨h1, h2⟩ := addO_X C.wf CV.fs hh
    exact two_of hN h1 h2
  have hc := opC_cell w o
  rw [← hV] at hc
  have HV := tHid hV
  clear hV CV hN
  obtain ⟨P, hP⟩ : ∃ P : Ending → World → Prop, P = CaO fb mb ot L X T (addR X 2 o.dir o.name 2 o.mt []) w := ⟨_, rfl⟩
  rw [← hP] at HA ⊢
  clear hP C
  obtain ⟨kind, on, dir, name, node, too, other, tgt, mt, pl, n, b, bs, xn, xb, xx, xs⟩ := o
  obtain ⟨ba, bn, bc⟩ := bs
  obtain ⟨xa, xsn, xsc⟩ := xs
  simp only at hk HA hc HV ⊢
  subst hk
  have c0 := hc 0 _ rfl
  have c2 := hc 2 _ rfl
  have c3 := hc 3 _ rfl
  have c8 := hc 8 _ rfl
  have c9 := hc 9 _ rfl
  have c10 := hc 10 _ rfl
  have c11 := hc 11 _ rfl
  have c12 := hc 12 _ rfl
  clear hc
  unfold mtV at *
  go_enter Tryz.func12, Tryz.ntmps12
  go_upto_region 1 with fail
  rw [← HV.out]
  clear HV
  go_wp2_with (first | (go_at_call 26; with_reducible refine HA.out.mono ?_; rintro e w5 ⟨a, b, rfl, H5⟩))
  exact H5.out
set_option maxHeartbeats 4000000 in
theorem calls3 (C : CaH fb mb ot L X T o w) (hk : o.kind = 3) : Calls Tryz.prog 12 #[.pointer (some ⟨fb, 0, none⟩), .agg (opC o)] w (CaO fb mb ot L X T (addR X 3 o.dir o.name 3 o.mt o.tgt) w) := by
  obtain ⟨V, hV⟩ : ∃ V, V = w.alloc (.cells (opC o) 40) := ⟨_, rfl⟩
  have hN : Nw w V := by rw [hV]; exact (Fr.refl _ _).alloc _
  have CV := C.nw hN
  have HA : Hid (Calls Tryz.prog 34 #[.pointer (some ⟨fb, 0, none⟩), .int .i64 o.dir, .string (mk o.name), .string (mk o.tgt), mtV o.mt] V fun e w' => ∃ a b, e = .returned (.tuple #[.int .i64 a, .int .i64 b]) ∧ Hid (CaO fb mb ot L X T (addR X 3 o.dir o.name 3 o.mt o.tgt) w (.returned (.tuple #[.int .i64 a, .int .i64 b])) w')) := by
    refine Calls.mono (symlink_any CV.fs (wf_next C.wf) ⟨by have := C.wf.x1; show 0 ≤ X.next; omega, C.wf.x2⟩ (by have := CV.tr; omega) (by have := wf_cnt C.wf; omega) _ C.ok.d64 _ C.ok.nl (wf_zero C.wf _ _) (wf_ne C.few _) _ C.ok.tl o.mt) (fun e w' hh => ?_)
    obtain ⟨h1, h2⟩ := addO_X C.wf CV.fs hh
    exact two_of hN h1 h2
  have hc := opC_cell w o
  rw [← hV] at hc
  have HV := tHid hV
  clear hV CV hN
  obtain ⟨P, hP⟩ : ∃ P : Ending → World → Prop, P = CaO fb mb ot L X T (addR X 3 o.dir o.name 3 o.mt o.tgt) w := ⟨_, rfl⟩
  rw [← hP] at HA ⊢
  clear hP C
  obtain ⟨kind, on, dir, name, node, too, other, tgt, mt, pl, n, b, bs, xn, xb, xx, xs⟩ := o
  obtain ⟨ba, bn, bc⟩ := bs
  obtain ⟨xa, xsn, xsc⟩ := xs
  simp only at hk HA hc HV ⊢
  subst hk
  have c0 := hc 0 _ rfl
  have c2 := hc 2 _ rfl
  have c3 := hc 3 _ rfl
  have c7 := hc 7 _ rfl
  have c8 := hc 8 _ rfl
  have c9 := hc 9 _ rfl
  have c10 := hc 10 _ rfl
  have c11 := hc 11 _ rfl
  have c12 := hc 12 _ rfl
  clear hc
  unfold mtV at *
  go_enter Tryz.func12, Tryz.ntmps12
  go_upto_region 1 with fail
  rw [← HV.out]
  clear HV
  go_wp2_with (first | (go_at_call 34; with_reducible refine HA.out.mono ?_; rintro e w5 ⟨a, b, rfl, H5⟩))
  exact H5.out
set_option maxHeartbeats 4000000 in
theorem calls4 (C : CaH fb mb ot L X T o w) (hk : o.kind = 4) : Calls Tryz.prog 12 #[.pointer (some ⟨fb, 0, none⟩), .agg (opC o)] w (CaO fb mb ot L X T (lnkR X o.dir o.name o.node) w) := by
  obtain ⟨V, hV⟩ : ∃ V, V = w.alloc (.cells (opC o) 40) := ⟨_, rfl⟩
  have hN : Nw w V := by rw [hV]; exact (Fr.refl _ _).alloc _
  have CV := C.nw hN
  have HA : Hid (Calls Tryz.prog 28 #[.pointer (some ⟨fb, 0, none⟩), .int .i64 o.dir, .string (mk o.name), .int .i64 o.node] V fun e w' => ∃ b, e = .returned (.int .i64 b) ∧ Hid (CaO fb mb ot L X T (lnkR X o.dir o.name o.node) w (.returned (.tuple #[.int .i64 0, .int .i64 b])) w')) := by
    refine Calls.mono (link_any CV.fs (by have := CV.tr; omega) _ C.ok.d64 _ C.ok.nl _ C.ok.n64 (wf_zero C.wf _ _) (wf_ne C.few _) (wf_links C.wf C.few _)) (fun e w' hh => ?_)
    obtain ⟨h1, h2⟩ := lnkO_X C.wf CV.fs hh
    exact one_of hN (lnkR_n _ _ _) h1 h2
  have hc := opC_cell w o
  rw [← hV] at hc
  have HV := tHid hV
  clear hV CV hN
  obtain ⟨P, hP⟩ : ∃ P : Ending → World → Prop, P = CaO fb mb ot L X T (lnkR X o.dir o.name o.node) w := ⟨_, rfl⟩
  rw [← hP] at HA ⊢
  clear hP C
  obtain ⟨kind, on, dir, name, node, too, other, tgt, mt, pl, n, b, bs, xn, xb, xx, xs⟩ := o
  obtain ⟨ba, bn, bc⟩ := bs
  obtain ⟨xa, xsn, xsc⟩ := xs
  simp only at hk HA hc HV ⊢
  subst hk
  have c0 := hc 0 _ rfl
  have c2 := hc 2 _ rfl
  have c3 := hc 3 _ rfl
  have c4 := hc 4 _ rfl
  clear hc
  unfold mtV at *
  go_enter Tryz.func12, Tryz.ntmps12
  go_upto_region 1 with fail
  rw [← HV.out]
  clear HV
  go_wp2_with (first | (go_at_call 28; with_reducible refine HA.out.mono ?_; rintro e w5 ⟨b, rfl, H5⟩))
  exact H5.out
set_option maxHeartbeats 4000000 in
theorem calls6 (C : CaH fb mb ot L X T o w) (hk : o.kind = 6) : Calls Tryz.prog 12 #[.pointer (some ⟨fb, 0, none⟩), .agg (opC o)] w (CaO fb mb ot L X T (rszR X o.node o.n) w) := by
  obtain ⟨V, hV⟩ : ∃ V, V = w.alloc (.cells (opC o) 40) := ⟨_, rfl⟩
  have hN : Nw w V := by rw [hV]; exact (Fr.refl _ _).alloc _
  have CV := C.nw hN
  have HA : Hid (Calls Tryz.prog 35 #[.pointer (some ⟨fb, 0, none⟩), .int .i64 o.node, .int .i64 o.n] V fun e w' => ∃ b, e = .returned (.int .i64 b) ∧ Hid (CaO fb mb ot L X T (rszR X o.node o.n) w (.returned (.tuple #[.int .i64 0, .int .i64 b])) w')) := by
    refine Calls.mono (resizeF_any CV.fs (by have := CV.tr; omega) _ C.ok.n64 _ (wf_data C.wf _) (by have := wf_held C.wf; omega) (by have := wf_held C.wf; omega)) (fun e w' hh => ?_)
    obtain ⟨h1, h2⟩ := rsO_X C.wf CV.fs hh
    exact one_of hN (rszR_n _ _) h1 h2
  have hc := opC_cell w o
  rw [← hV] at hc
  have HV := tHid hV
  clear hV CV hN
  obtain ⟨P, hP⟩ : ∃ P : Ending → World → Prop, P = CaO fb mb ot L X T (rszR X o.node o.n) w := ⟨_, rfl⟩
  rw [← hP] at HA ⊢
  clear hP C
  obtain ⟨kind, on, dir, name, node, too, other, tgt, mt, pl, n, b, bs, xn, xb, xx, xs⟩ := o
  obtain ⟨ba, bn, bc⟩ := bs
  obtain ⟨xa, xsn, xsc⟩ := xs
  simp only at hk HA hc HV ⊢
  subst hk
  have c0 := hc 0 _ rfl
  have c4 := hc 4 _ rfl
  have c14 := hc 14 _ rfl
  clear hc
  unfold mtV at *
  go_enter Tryz.func12, Tryz.ntmps12
  go_upto_region 1 with fail
  rw [← HV.out]
  clear HV
  go_wp2_with (first | (go_at_call 35; with_reducible refine HA.out.mono ?_; rintro e w5 ⟨b, rfl, H5⟩))
  exact H5.out
set_option maxHeartbeats 4000000 in
theorem calls7 (C : CaH fb mb ot L X T o w) (hk : o.kind = 7) : Calls Tryz.prog 12 #[.pointer (some ⟨fb, 0, none⟩), .agg (opC o)] w (CaO fb mb ot L X T (remR X 7 o.dir o.name false) w) := by
  obtain ⟨V, hV⟩ : ∃ V, V = w.alloc (.cells (opC o) 40) := ⟨_, rfl⟩
  have hN : Nw w V := by rw [hV]; exact (Fr.refl _ _).alloc _
  have CV := C.nw hN
  have HA : Hid (Calls Tryz.prog 30 #[.pointer (some ⟨fb, 0, none⟩), .int .i64 o.dir, .string (mk o.name)] V fun e w' => ∃ b, e = .returned (.int .i64 b) ∧ Hid (CaO fb mb ot L X T (remR X 7 o.dir o.name false) w (.returned (.tuple #[.int .i64 0, .int .i64 b])) w')) := by
    refine Calls.mono (unlink_any CV.fs (by have := CV.tr; omega) _ C.ok.d64 _ C.ok.nl (wf_entOk' C.wf C.few _ _) (by have := wf_held C.wf; omega)) (fun e w' hh => ?_)
    obtain ⟨h1, h2⟩ := remO_X C.wf CV.fs hh
    exact one_of hN (remR_n _ _ _ _) h1 h2
  have hc := opC_cell w o
  rw [← hV] at hc
  have HV := tHid hV
  clear hV CV hN
  obtain ⟨P, hP⟩ : ∃ P : Ending → World → Prop, P = CaO fb mb ot L X T (remR X 7 o.dir o.name false) w := ⟨_, rfl⟩
  rw [← hP] at HA ⊢
  clear hP C
  obtain ⟨kind, on, dir, name, node, too, other, tgt, mt, pl, n, b, bs, xn, xb, xx, xs⟩ := o
  obtain ⟨ba, bn, bc⟩ := bs
  obtain ⟨xa, xsn, xsc⟩ := xs
  simp only at hk HA hc HV ⊢
  subst hk
  have c0 := hc 0 _ rfl
  have c2 := hc 2 _ rfl
  have c3 := hc 3 _ rfl
  clear hc
  unfold mtV at *
  go_enter Tryz.func12, Tryz.ntmps12
  go_upto_region 1 with fail
  rw [← HV.out]
  clear HV
  go_wp2_with (first | (go_at_call 30; with_reducible refine HA.out.mono ?_; rintro e w5 ⟨b, rfl, H5⟩))
  exact H5.out
set_option maxHeartbeats 4000000 in
theorem calls8 (C : CaH fb mb ot L X T o w) (hk : o.kind = 8) : Calls Tryz.prog 12 #[.pointer (some ⟨fb, 0, none⟩), .agg (opC o)] w (CaO fb mb ot L X T (remR X 8 o.dir o.name true) w) := by
  obtain ⟨V, hV⟩ : ∃ V, V = w.alloc (.cells (opC o) 40) := ⟨_, rfl⟩
  have hN : Nw w V := by rw [hV]; exact (Fr.refl _ _).alloc _
  have CV := C.nw hN
  have HA : Hid (Calls Tryz.prog 31 #[.pointer (some ⟨fb, 0, none⟩), .int .i64 o.dir, .string (mk o.name)] V fun e w' => ∃ b, e = .returned (.int .i64 b) ∧ Hid (CaO fb mb ot L X T (remR X 8 o.dir o.name true) w (.returned (.tuple #[.int .i64 0, .int .i64 b])) w')) := by
    refine Calls.mono (rmdir_any CV.fs (by have := CV.tr; omega) _ C.ok.d64 _ C.ok.nl (wf_entOk' C.wf C.few _ _) (by have := wf_held C.wf; omega)) (fun e w' hh => ?_)
    obtain ⟨h1, h2⟩ := remO_X C.wf CV.fs hh
    exact one_of hN (remR_n _ _ _ _) h1 h2
  have hc := opC_cell w o
  rw [← hV] at hc
  have HV := tHid hV
  clear hV CV hN
  obtain ⟨P, hP⟩ : ∃ P : Ending → World → Prop, P = CaO fb mb ot L X T (remR X 8 o.dir o.name true) w := ⟨_, rfl⟩
  rw [← hP] at HA ⊢
  clear hP C
  obtain ⟨kind, on, dir, name, node, too, other, tgt, mt, pl, n, b, bs, xn, xb, xx, xs⟩ := o
  obtain ⟨ba, bn, bc⟩ := bs
  obtain ⟨xa, xsn, xsc⟩ := xs
  simp only at hk HA hc HV ⊢
  subst hk
  have c0 := hc 0 _ rfl
  have c2 := hc 2 _ rfl
  have c3 := hc 3 _ rfl
  clear hc
  unfold mtV at *
  go_enter Tryz.func12, Tryz.ntmps12
  go_upto_region 1 with fail
  rw [← HV.out]
  clear HV
  go_wp2_with (first | (go_at_call 31; with_reducible refine HA.out.mono ?_; rintro e w5 ⟨b, rfl, H5⟩))
  exact H5.out
set_option maxHeartbeats 4000000 in
theorem calls9 (C : CaH fb mb ot L X T o w) (hk : o.kind = 9) : Calls Tryz.prog 12 #[.pointer (some ⟨fb, 0, none⟩), .agg (opC o)] w (CaO fb mb ot L X T (rnR X o.dir o.name o.too o.other) w) := by
  obtain ⟨V, hV⟩ : ∃ V, V = w.alloc (.cells (opC o) 40) := ⟨_, rfl⟩
  have hN : Nw w V := by rw [hV]; exact (Fr.refl _ _).alloc _
  have CV := C.nw hN
  have HA : Hid (Calls Tryz.prog 36 #[.pointer (some ⟨fb, 0, none⟩), .int .i64 o.dir, .string (mk o.name), .int .i64 o.too, .string (mk o.other)] V fun e w' => ∃ b, e = .returned (.int .i64 b) ∧ Hid (CaO fb mb ot L X T (rnR X o.dir o.name o.too o.other) w (.returned (.tuple #[.int .i64 0, .int .i64 b])) w')) := by
    refine Calls.mono (rename_any C.wf C.few CV.fs (by have := CV.tr; omega) _ _ C.ok.d64 C.ok.t64 _ _ C.ok.nl C.ok.ol) (fun e w' hh => ?_)
    obtain ⟨h1, h2⟩ := rnO_X CV.fs hh
    exact one_of hN (rnR_n _ _ _ _) h1 h2
  have hc := opC_cell w o
  rw [← hV] at hc
  have HV := tHid hV
  clear hV CV hN
  obtain ⟨P, hP⟩ : ∃ P : Ending → World → Prop, P = CaO fb mb ot L X T (rnR X o.dir o.name o.too o.other) w := ⟨_, rfl⟩
  rw [← hP] at HA ⊢
  clear hP C
  obtain ⟨kind, on, dir, name, node, too, other, tgt, mt, pl, n, b, bs, xn, xb, xx, xs⟩ := o
  obtain ⟨ba, bn, bc⟩ := bs
  obtain ⟨xa, xsn, xsc⟩ := xs
  simp only at hk HA hc HV ⊢
  subst hk
  have c0 := hc 0 _ rfl
  have c2 := hc 2 _ rfl
  have c3 := hc 3 _ rfl
  have c5 := hc 5 _ rfl
  have c6 := hc 6 _ rfl
  clear hc
  unfold mtV at *
  go_enter Tryz.func12, Tryz.ntmps12
  go_upto_region 1 with fail
  rw [← HV.out]
  clear HV
  go_wp2_with (first | (go_at_call 36; with_reducible refine HA.out.mono ?_; rintro e w5 ⟨b, rfl, H5⟩))
  exact H5.out
set_option maxHeartbeats 4000000 in
theorem calls10 (C : CaH fb mb ot L X T o w) (hk : o.kind = 10) : Calls Tryz.prog 12 #[.pointer (some ⟨fb, 0, none⟩), .agg (opC o)] w (CaO fb mb ot L X T (chR X o.node o.mt) w) := by
  obtain ⟨V, hV⟩ : ∃ V, V = w.alloc (.cells (opC o) 40) := ⟨_, rfl⟩
  have hN : Nw w V := by rw [hV]; exact (Fr.refl _ _).alloc _
  have CV := C.nw hN
  have HA : Hid (Calls Tryz.prog 37 #[.pointer (some ⟨fb, 0, none⟩), .int .i64 o.node, mtV o.mt] V fun e w' => ∃ b, e = .returned (.int .i64 b) ∧ Hid (CaO fb mb ot L X T (chR X o.node o.mt) w (.returned (.tuple #[.int .i64 0, .int .i64 b])) w')) := by
    refine Calls.mono (change_any CV.fs (by have := CV.tr; omega) _ C.ok.n64 o.mt) (fun e w' hh => ?_)
    obtain ⟨h1, h2⟩ := chO_X C.wf CV.fs hh
    exact one_of hN (chR_n _ _) h1 h2
  have hc := opC_cell w o
  rw [← hV] at hc
  have HV := tHid hV
  clear hV CV hN
  obtain ⟨P, hP⟩ : ∃ P : Ending → World → Prop, P = CaO fb mb ot L X T (chR X o.node o.mt) w := ⟨_, rfl⟩
  rw [← hP] at HA ⊢
  clear hP C
  obtain ⟨kind, on, dir, name, node, too, other, tgt, mt, pl, n, b, bs, xn, xb, xx, xs⟩ := o
  obtain ⟨ba, bn, bc⟩ := bs
  obtain ⟨xa, xsn, xsc⟩ := xs
  simp only at hk HA hc HV ⊢
  subst hk
  have c0 := hc 0 _ rfl
  have c4 := hc 4 _ rfl
  have c8 := hc 8 _ rfl
  have c9 := hc 9 _ rfl
  have c10 := hc 10 _ rfl
  have c11 := hc 11 _ rfl
  have c12 := hc 12 _ rfl
  clear hc
  unfold mtV at *
  go_enter Tryz.func12, Tryz.ntmps12
  go_upto_region 1 with fail
  rw [← HV.out]
  clear HV
  go_wp2_with (first | (go_at_call 37; with_reducible refine HA.out.mono ?_; rintro e w5 ⟨b, rfl, H5⟩))
  exact H5.out
set_option maxHeartbeats 4000000 in
theorem calls11 (C : CaH fb mb ot L X T o w) (hk : o.kind = 11) : Calls Tryz.prog 12 #[.pointer (some ⟨fb, 0, none⟩), .agg (opC o)] w (CaO fb mb ot L X T (⟨(fndQ (qOf X.l) o.dir o.name).1, (fndQ (qOf X.l) o.dir o.name).2, X, []⟩) w) := by
  obtain ⟨V, hV⟩ : ∃ V, V = w.alloc (.cells (opC o) 40) := ⟨_, rfl⟩
  have hN : Nw w V := by rw [hV]; exact (Fr.refl _ _).alloc _
  have CV := C.nw hN
  have HA : Hid (Calls Tryz.prog 21 #[.pointer (some ⟨fb, 0, none⟩), .int .i64 o.dir, .string (mk o.name)] V fun e w' => ∃ a b, e = .returned (.tuple #[.int .i64 a, .int .i64 b]) ∧ Hid (CaO fb mb ot L X T (⟨(fndQ (qOf X.l) o.dir o.name).1, (fndQ (qOf X.l) o.dir o.name).2, X, []⟩) w (.returned (.tuple #[.int .i64 a, .int .i64 b])) w')) := by
    refine Calls.mono (lookup_any CV.fs _ C.ok.d64 _ C.ok.nl (wf_zero C.wf _ _)) (fun e w' hh => ?_)
    obtain ⟨h1, h2⟩ := hh
    exact two_of hN h1 (opo_nw CV.fs h2)
  have hc := opC_cell w o
  rw [← hV] at hc
  have HV := tHid hV
  clear hV CV hN
  obtain ⟨P, hP⟩ : ∃ P : Ending → World → Prop, P = CaO fb mb ot L X T (⟨(fndQ (qOf X.l) o.dir o.name).1, (fndQ (qOf X.l) o.dir o.name).2, X, []⟩) w := ⟨_, rfl⟩
  rw [← hP] at HA ⊢
  clear hP C
  obtain ⟨kind, on, dir, name, node, too, other, tgt, mt, pl, n, b, bs, xn, xb, xx, xs⟩ := o
  obtain ⟨ba, bn, bc⟩ := bs
  obtain ⟨xa, xsn, xsc⟩ := xs
  simp only at hk HA hc HV ⊢
  subst hk
  have c0 := hc 0 _ rfl
  have c2 := hc 2 _ rfl
  have c3 := hc 3 _ rfl
  clear hc
  unfold mtV at *
  go_enter Tryz.func12, Tryz.ntmps12
  go_upto_region 1 with fail
  rw [← HV.out]
  clear HV
  go_wp2_with (first | (go_at_call 21; with_reducible refine HA.out.mono ?_; rintro e w5 ⟨a, b, rfl, H5⟩))
  exact H5.out
set_option maxHeartbeats 4000000 in
theorem calls12 (C : CaH fb mb ot L X T o w) (hk : o.kind = 12) : Calls Tryz.prog 12 #[.pointer (some ⟨fb, 0, none⟩), .agg (opC o)] w (CaO fb mb ot L X T (⟨(upQ (qOf X.l) o.dir).1, (upQ (qOf X.l) o.dir).2, X, []⟩) w) := by
  obtain ⟨V, hV⟩ : ∃ V, V = w.alloc (.cells (opC o) 40) := ⟨_, rfl⟩
  have hN : Nw w V := by rw [hV]; exact (Fr.refl _ _).alloc _
  have CV := C.nw hN
  have HA : Hid (Calls Tryz.prog 23 #[.pointer (some ⟨fb, 0, none⟩), .int .i64 o.dir] V fun e w' => ∃ a b, e = .returned (.tuple #[.int .i64 a, .int .i64 b]) ∧ Hid (CaO fb mb ot L X T (⟨(upQ (qOf X.l) o.dir).1, (upQ (qOf X.l) o.dir).2, X, []⟩) w (.returned (.tuple #[.int .i64 a, .int .i64 b])) w')) := by
    refine Calls.mono (up_any CV.fs _ C.ok.d64) (fun e w' hh => ?_)
    obtain ⟨h1, h2⟩ := hh
    subst h2
    exact two_of hN h1 (opo_nw CV.fs (Fr.refl _ _))
  have hc := opC_cell w o
  rw [← hV] at hc
  have HV := tHid hV
  clear hV CV hN
  obtain ⟨P, hP⟩ : ∃ P : Ending → World → Prop, P = CaO fb mb ot L X T (⟨(upQ (qOf X.l) o.dir).1, (upQ (qOf X.l) o.dir).2, X, []⟩) w := ⟨_, rfl⟩
  rw [← hP] at HA ⊢
  clear hP C
  obtain ⟨kind, on, dir, name, node, too, other, tgt, mt, pl, n, b, bs, xn, xb, xx, xs⟩ := o
  obtain ⟨ba, bn, bc⟩ := bs
  obtain ⟨xa, xsn, xsc⟩ := xs
  simp only at hk HA hc HV ⊢
  subst hk
  have c0 := hc 0 _ rfl
  have c2 := hc 2 _ rfl
  clear hc
  unfold mtV at *
  go_enter Tryz.func12, Tryz.ntmps12
  go_upto_region 1 with fail
  rw [← HV.out]
  clear HV
  go_wp2_with (first | (go_at_call 23; with_reducible refine HA.out.mono ?_; rintro e w5 ⟨a, b, rfl, H5⟩))
  exact H5.out
set_option maxHeartbeats 4000000 in
theorem calls13 (C : CaH fb mb ot L X T o w) (hk : o.kind = 13) : Calls Tryz.prog 12 #[.pointer (some ⟨fb, 0, none⟩), .agg (opC o)] w (CaO fb mb ot L X T (⟨lstR X o.dir, dirE (qOf X.l) o.dir, X, []⟩) w) := by
  obtain ⟨V, hV⟩ : ∃ V, V = w.alloc (.cells (opC o) 40) := ⟨_, rfl⟩
  have hN : Nw w V := by rw [hV]; exact (Fr.refl _ _).alloc _
  have CV := C.nw hN
  have HA : Hid (Calls Tryz.prog 20 #[.pointer (some ⟨fb, 0, none⟩), .int .i64 o.dir] V fun e w' => ∃ (a : Option Addr) (n c : Nat) (b : Int), e = .returned (.tuple #[.slice a n c, .int .i64 b]) ∧ Hid (CaO fb mb ot L X T (⟨lstR X o.dir, dirE (qOf X.l) o.dir, X, []⟩) w (.returned (.tuple #[.int .i64 n, .int .i64 b])) w')) := by
    have hes : ∀ p, qOf X.l o.dir = some p → p.kind = 1 → Ents ME p.ents p.ne (((get X.l o.dir).map (·.ents)).getD []) ∧ p.ne ≤ 1000000 := fun p hp hk => by
      obtain ⟨x, hg, hm, _, rfl⟩ := qOf_some hp
      rw [hg]
      exact ⟨wf_ents C.wf hm, Nat.le_trans (sumF_mem (fun x => x.ents.length) hm) C.tot⟩
    have hsr : (((get X.l o.dir).map (·.ents)).getD []).Pairwise (fun x y => lt x.1 y.1 = true) := by
      cases hg : get X.l o.dir with
      | none => exact List.Pairwise.nil
      | some x => exact C.wf.esrt x (get_some hg).1
    refine Calls.mono (listF_any sort_any CV.fs _ C.ok.d64 _ hes hsr) (fun e w' hh => ?_)
    rcases hh with ⟨h1, rfl, h2⟩ | ⟨h1, og, a, c, rfl, _, h2, _⟩
    · exact ⟨_, _, _, _, rfl, by unfold lstR; rw [if_neg h1]; rfl, opo_from hN (opo_nw CV.fs h2)⟩
    · refine ⟨_, _, _, _, rfl, ?_, opo_from hN (opo_nw CV.fs h2)⟩
      unfold lstR
      rw [if_pos h1, h1]
      cases hg : get X.l o.dir <;> rfl
  have hc := opC_cell w o
  rw [← hV] at hc
  have HV := tHid hV
  clear hV CV hN
  obtain ⟨P, hP⟩ : ∃ P : Ending → World → Prop, P = CaO fb mb ot L X T (⟨lstR X o.dir, dirE (qOf X.l) o.dir, X, []⟩) w := ⟨_, rfl⟩
  rw [← hP] at HA ⊢
  clear hP C
  obtain ⟨kind, on, dir, name, node, too, other, tgt, mt, pl, n, b, bs, xn, xb, xx, xs⟩ := o
  obtain ⟨ba, bn, bc⟩ := bs
  obtain ⟨xa, xsn, xsc⟩ := xs
  simp only at hk HA hc HV ⊢
  subst hk
  have c0 := hc 0 _ rfl
  have c2 := hc 2 _ rfl
  clear hc
  unfold mtV at *
  go_enter Tryz.func12, Tryz.ntmps12
  go_upto_region 1 with fail
  rw [← HV.out]
  clear HV
  go_wp2_with (first | (go_at_call 20; with_reducible refine HA.out.mono ?_; rintro e w5 ⟨a, n5, c, b5, rfl, H5⟩))
  exact H5.out
set_option maxHeartbeats 4000000 in
theorem calls14 (C : CaH fb mb ot L X T o w) (hk : o.kind = 14) : Calls Tryz.prog 12 #[.pointer (some ⟨fb, 0, none⟩), .agg (opC o)] w (CaO fb mb ot L X T (⟨(staR X o.node).1, (staR X o.node).2, X, []⟩) w) := by
  obtain ⟨V, hV⟩ : ∃ V, V = w.alloc (.cells (opC o) 40) := ⟨_, rfl⟩
  have hN : Nw w V := by rw [hV]; exact (Fr.refl _ _).alloc _
  have CV := C.nw hN
  have HA : Hid (Calls Tryz.prog 22 #[.pointer (some ⟨fb, 0, none⟩), .int .i64 o.node] V fun e w' => ∃ (v0 v1 v3 v4 : Int) (m1 m2 m3 : Nat) (t1 t2 : Int) (b : Int), e = .returned (.tuple #[.agg #[.int .i64 v0, .int .i64 v1, .int .u32 m1, .int .u32 m2, .int .u32 m3, .int .i64 t1, .int .i32 t2, .int .i64 v3, .int .i64 v4], .int .i64 b]) ∧ Hid (∀ W, Nw w' W → CaO fb mb ot L X T (⟨(staR X o.node).1, (staR X o.node).2, X, []⟩) w (.returned (.tuple #[.int .i64 v3, .int .i64 b])) W)) := by
    refine Calls.mono (stat_any CV.fs _ C.ok.n64 (fun p hp => ?_)) (fun e w' hh => ?_)
    · obtain ⟨x, hg, hm, _, rfl⟩ := qOf_some hp
      have h1 := (C.wf.kinds x hm).len
      have h2 := Nat.le_trans (sumF_mem (fun x => x.ents.length) hm) C.tot
      have h3 := (C.wf.kinds x hm).tlen
      exact ⟨by show x.data.length ≤ _; omega, by show x.ents.length ≤ _; omega, by show x.tgt.length ≤ _; omega⟩
    · obtain ⟨h1, h2⟩ := hh
      unfold stV at h1
      unfold staR
      cases hq : qOf X.l o.node with
      | none => rw [hq] at h1; exact ⟨_, _, _, _, 0, 0, 0, _, _, _, h1, fun W hW => ⟨rfl, opo_from hN (opo_nw CV.fs (h2.trans hW))⟩⟩
      | some p => rw [hq] at h1; exact ⟨_, _, _, _, _, _, _, _, _, _, h1, fun W hW => ⟨rfl, opo_from hN (opo_nw CV.fs (h2.trans hW))⟩⟩
  have hc := opC_cell w o
  rw [← hV] at hc
  have HV := tHid hV
  clear hV CV hN
  obtain ⟨P, hP⟩ : ∃ P : Ending → World → Prop, P = CaO fb mb ot L X T (⟨(staR X o.node).1, (staR X o.node).2, X, []⟩) w := ⟨_, rfl⟩
  rw [← hP] at HA ⊢
  clear hP C
  obtain ⟨kind, on, dir, name, node, too, other, tgt, mt, pl, n, b, bs, xn, xb, xx, xs⟩ := o
  obtain ⟨ba, bn, bc⟩ := bs
  obtain ⟨xa, xsn, xsc⟩ := xs
  simp only at hk HA hc HV ⊢
  subst hk
  have c0 := hc 0 _ rfl
  have c4 := hc 4 _ rfl
  clear hc
  unfold mtV at *
  go_enter Tryz.func12, Tryz.ntmps12
  go_upto_region 1 with fail
  rw [← HV.out]
  clear HV
  go_wp2_with (first | (go_at_call 22; with_reducible refine HA.out.mono ?_; rintro e w5 ⟨v0, v1, v3, v4, m1, m2, m3, t1, t2, b5, rfl, H5⟩))
  exact H5.out _ ((Fr.refl _ _).alloc _)
set_option maxHeartbeats 4000000 in
theorem calls0 (C : CaH fb mb ot L X T o w) (hk : ∀ k ∈ ([1, 2, 3, 4, 5, 6, 7, 8, 9, 10, 11, 12, 13, 14] : List Int), o.kind ≠ k) : Calls Tryz.prog 12 #[.pointer (some ⟨fb, 0, none⟩), .agg (opC o)] w (CaO fb mb ot L X T ⟨0, 0, X, []⟩ w) := by
  obtain ⟨V, hV⟩ : ∃ V, V = w.alloc (.cells (opC o) 40) := ⟨_, rfl⟩
  have hN : Nw w V := by rw [hV]; exact (Fr.refl _ _).alloc _
  have CV := C.nw hN
  have HA : Hid (CaO fb mb ot L X T ⟨0, 0, X, []⟩ w (.returned (.tuple #[.int .i64 0, .int .i64 0])) V) := ⟨rfl, opo_from hN (opo_nw CV.fs (Fr.refl _ _))⟩
  have hc := opC_cell w o
  rw [← hV] at hc
  have HV := tHid hV
  clear hV CV hN
  obtain ⟨P, hP⟩ : ∃ P : Ending → World → Prop, P = CaO fb mb ot L X T ⟨0, 0, X, []⟩ w := ⟨_, rfl⟩
  rw [← hP] at HA ⊢
  clear hP C
  obtain ⟨kind, on, dir, name, node, too, other, tgt, mt, pl, n, b, bs, xn, xb, xx, xs⟩ := o
  obtain ⟨ba, bn, bc⟩ := bs
  obtain ⟨xa, xsn, xsc⟩ := xs
  simp only at hk HA hc HV ⊢
  have c0 := hc 0 _ rfl
  clear hc
  have k1 : kind ≠ 1 := hk 1 (by decide)
  have k2 : kind ≠ 2 := hk 2 (by decide)
  have k3 : kind ≠ 3 := hk 3 (by decide)
  have k4 : kind ≠ 4 := hk 4 (by decide)
  have k5 : kind ≠ 5 := hk 5 (by decide)
  have k6 : kind ≠ 6 := hk 6 (by decide)
  have k7 : kind ≠ 7 := hk 7 (by decide)
  have k8 : kind ≠ 8 := hk 8 (by decide)
  have k9 : kind ≠ 9 := hk 9 (by decide)
  have k10 : kind ≠ 10 := hk 10 (by decide)
  have k11 : kind ≠ 11 := hk 11 (by decide)
  have k12 : kind ≠ 12 := hk 12 (by decide)
  have k13 : kind ≠ 13 := hk 13 (by decide)
  have k14 : kind ≠ 14 := hk 14 (by decide)
  clear hk
  go_enter Tryz.func12, Tryz.ntmps12
  go_upto_region 1 with fail
  rw [← HV.out]
  clear HV
  go_wp2_with fail
  exact HA.out
section
attribute [local go_sem ↓] appV_fold
set_option maxHeartbeats 4000000 in
theorem calls5 (C : CaH fb mb ot L X T o w) (hk : o.kind = 5) : Calls Tryz.prog 12 #[.pointer (some ⟨fb, 0, none⟩), .agg (opC o)] w (CaO fb mb ot L X T (wrR X o.node o.pl o.b) w) := by
  obtain ⟨V, hV⟩ : ∃ V, V = w.alloc (.cells (opC o) 40) := ⟨_, rfl⟩
  have hN : Nw w V := by rw [hV]; exact (Fr.refl _ _).alloc _
  have CV := C.nw hN
  have row0 : V.heap[w.heap.size]? = some (.cells (opC o) 40) := by rw [hV]; exact nh w _
  have HS : Hid (∀ B, Nw V B → B.cell? ⟨w.heap.size, 4, none⟩ = some (.int .i64 o.node) ∧ B.cell? ⟨w.heap.size, 13, none⟩ = some (.int .i64 o.pl) ∧ B.cell? ⟨w.heap.size, 15, none⟩ = some (.slice o.bs.a o.bs.n o.bs.c)) := fun B hB => by
    have row1 := hB.heap row0
    exact ⟨(rc row1 4 _ rfl).1, (rc row1 13 _ rfl).1, (rc row1 15 _ rfl).1⟩
  have HE : Hid (∀ A B, Nw V A → Nw (A.alloc (.cells #[] 5)) B → ∃ g c W, (∀ ty, (appV #[38, 38] ty #[.slice (some ⟨A.heap.size, 0, none⟩) 0 0, .slice o.bs.a o.bs.n o.bs.c]).run Tryz.prog B = .ok (.slice (some ⟨g, 0, none⟩) o.bs.n c) W) ∧ Nw V W ∧ Hid (∀ W2, Nw W W2 → Calls Tryz.prog 27 #[.pointer (some ⟨fb, 0, none⟩), .int .i64 o.node, .int .i64 o.pl, .slice (some ⟨g, 0, none⟩) o.bs.n c] W2 fun e w' => ∃ b, e = .returned (.int .i64 b) ∧ (w'.cell? ⟨w.heap.size, 4, none⟩ = some (.int .i64 o.node) ∧ w'.cell? ⟨w.heap.size, 13, none⟩ = some (.int .i64 o.pl) ∧ w'.cell? ⟨w.heap.size, 15, none⟩ = some (.slice o.bs.a o.bs.n o.bs.c)) ∧ Hid (CaO fb mb ot L X T (wrR X o.node o.pl o.b) w (.returned (.tuple #[.int .i64 0, .int .i64 b])) w'))) := fun A B hA hB => by
    have nB : Nw V B := (hA.alloc _).trans hB
    obtain ⟨vd, gd, W, b1, b2, b3, b4⟩ := app_any B A.heap.size _ [] ((Ow.empty A).nw hB) (.slice o.bs.a o.bs.n o.bs.c) o.b (CV.bsl.nw nB) (by have := C.ok.bl; simp; omega)
    rw [List.nil_append] at b2
    obtain ⟨dc, ed⟩ : ∃ dc, vd = .slice (some ⟨gd, 0, none⟩) o.bs.n dc := by
      obtain ⟨xs, e1, e2, e3, e4, e5⟩ := b2
      exact ⟨_, by rw [C.bn]; exact e1⟩
    subst ed
    have sA := hA.size
    have sB := nB.size
    have sBA : A.heap.size < B.heap.size := by have := hB.size; simp at this; omega
    have nW : Nw V W := nB.then b3 (fun i hi => .inr (by omega))
    refine ⟨gd, dc, W, b1, nW, fun W2 hW2 => ?_⟩
    have n2 := nW.trans hW2
    have C2 := CV.nw n2
    have o2 := b2.nw hW2
    have hgl : V.heap.size ≤ gd := by
      rcases b4 with e | e <;> omega
    have hsl : Sl (fun k => Bk fb mb ot L (qOf X.l) k ∨ W2.heap.size ≤ k) (.slice (some ⟨gd, 0, none⟩) o.bs.n dc) o.b W2 := .inr ⟨gd, fun h => by
      rcases h with h | h
      · have := CV.fs.lt gd h
        omega
      · have := o2.lt
        omega, o2.slb⟩
    rw [C.bn] at hsl ⊢
    refine Calls.mono (write_any C2.fs (by have := C2.tr; omega) _ C.ok.n64 _ C.ok.p64 _ _ _ hsl (wf_data C.wf _) (by have := wf_held C.wf; omega) (by have := wf_held C.wf; omega)) (fun e w' hh => ?_)
    obtain ⟨h1, h2⟩ := wrO_X C.wf C2.fs hh
    obtain ⟨b, e1, e2⟩ := one_of (hN.trans n2) (wrR_n _ _ _) h1 h2
    refine ⟨b, e1, ?_, e2⟩
    obtain ⟨_, _, _, f, _⟩ := h2
    have row1 := f.heap (n2.heap row0) (fun h => by
      have := C.fs.lt _ h
      omega)
    rw [← C.bn]
    exact ⟨(rc row1 4 _ rfl).1, (rc row1 13 _ rfl).1, (rc row1 15 _ rfl).1⟩
  have hc := opC_cell w o
  rw [← hV] at hc
  have HV := tHid hV
  clear hV CV hN
  obtain ⟨P, hP⟩ : ∃ P : Ending → World → Prop, P = CaO fb mb ot L X T (wrR X o.node o.pl o.b) w := ⟨_, rfl⟩
  rw [← hP] at HE ⊢
  clear hP C row0
  obtain ⟨kind, on, dir, name, node, too, other, tgt, mt, pl, n, b, bs, xn, xb, xx, xs⟩ := o
  obtain ⟨ba, bn, bc⟩ := bs
  obtain ⟨xa, xsn, xsc⟩ := xs
  simp only at hk HE HS hc HV ⊢
  subst hk
  have c0 := hc 0 _ rfl
  have c4 := hc 4 _ rfl
  have c13 := hc 13 _ rfl
  have c15 := hc 15 _ rfl
  clear hc
  go_enter Tryz.func12, Tryz.ntmps12
  go_upto_region 1 with fail
  rw [← HV.out]
  clear HV
  go_upto_region 11 with fail
  obtain ⟨gA, cA, WA, hapA, nA, HA⟩ := HE.out V (V.alloc (.cells #[] 5)) (Fr.refl _ _) (Fr.refl _ _)
  obtain ⟨gB, cB, WB, hapB, nB, HB⟩ := HE.out V (V.alloc (.cells #[] 5)).drew (Fr.refl _ _) ((Fr.refl _ _).drew)
  obtain ⟨gC, cC, WC, hapC, nC, HC⟩ := HE.out V.drew (V.drew.alloc (.cells #[] 5)) ((Fr.refl _ _).drew) (Fr.refl _ _)
  obtain ⟨gD, cD, WD, hapD, nD, HD⟩ := HE.out V.drew (V.drew.alloc (.cells #[] 5)).drew ((Fr.refl _ _).drew) ((Fr.refl _ _).drew)
  clear HE
  go_region_held3 (fun B => B.cell? ⟨w.heap.size, 4, none⟩ = some (.int .i64 node) ∧ B.cell? ⟨w.heap.size, 13, none⟩ = some (.int .i64 pl) ∧ B.cell? ⟨w.heap.size, 15, none⟩ = some (.slice ba bn bc))
    (first | assumption | (refine HS.out _ ?_; repeat (first | assumption | exact Fr.refl _ _ | refine Fr.alloc ?_ _ | refine Fr.drew ?_)))
    (first
      | (go_at_call 27; with_reducible refine (HA.out _ ?_).mono ?_; (first | exact Fr.refl _ _ | exact (Fr.refl _ _).drew); rintro e w3 ⟨b3, rfl, s3, H3⟩)
      | (go_at_call 27; with_reducible refine (HB.out _ ?_).mono ?_; (first | exact Fr.refl _ _ | exact (Fr.refl _ _).drew); rintro e w3 ⟨b3, rfl, s3, H3⟩)
      | (go_at_call 27; with_reducible refine (HC.out _ ?_).mono ?_; (first | exact Fr.refl _ _ | exact (Fr.refl _ _).drew); rintro e w3 ⟨b3, rfl, s3, H3⟩)
      | (go_at_call 27; with_reducible refine (HD.out _ ?_).mono ?_; (first | exact Fr.refl _ _ | exact (Fr.refl _ _).drew); rintro e w3 ⟨b3, rfl, s3, H3⟩))
  go_wp2_with fail
  exact H3.out
end
/-- The law's calls. -/
theorem calls_any (C : CaH fb mb ot L X T o w) : Calls Tryz.prog 12 #[.pointer (some ⟨fb, 0, none⟩), .agg (opC o)] w (CaO fb mb ot L X T (opR X o) w) := by
  unfold opR
  by_cases h1 : o.kind = 1
  · rw [if_pos h1]; exact calls1 C h1
  rw [if_neg h1]
  by_cases h2 : o.kind = 2
  · rw [if_pos h2]; exact calls2 C h2
  rw [if_neg h2]
  by_cases h3 : o.kind = 3
  · rw [if_pos h3]; exact calls3 C h3
  rw [if_neg h3]
  by_cases h4 : o.kind = 4
  · rw [if_pos h4]; exact calls4 C h4
  rw [if_neg h4]
  by_cases h5 : o.kind = 5
  · rw [if_pos h5]; exact calls5 C h5
  rw [if_neg h5]
  by_cases h6 : o.kind = 6
  · rw [if_pos h6]; exact calls6 C h6
  rw [if_neg h6]
  by_cases h7 : o.kind = 7
  · rw [if_pos h7]; exact calls7 C h7
  rw [if_neg h7]
  by_cases h8 : o.kind = 8
  · rw [if_pos h8]; exact calls8 C h8
  rw [if_neg h8]
  by_cases h9 : o.kind = 9
  · rw [if_pos h9]; exact calls9 C h9
  rw [if_neg h9]
  by_cases h10 : o.kind = 10
  · rw [if_pos h10]; exact calls10 C h10
  rw [if_neg h10]
  by_cases h11 : o.kind = 11
  · rw [if_pos h11]; exact calls11 C h11
  rw [if_neg h11]
  by_cases h12 : o.kind = 12
  · rw [if_pos h12]; exact calls12 C h12
  rw [if_neg h12]
  by_cases h13 : o.kind = 13
  · rw [if_pos h13]; exact calls13 C h13
  rw [if_neg h13]
  by_cases h14 : o.kind = 14
  · rw [if_pos h14]; exact calls14 C h14
  rw [if_neg h14]
  refine calls0 C (fun k hk => ?_)
  simp only [List.mem_cons, List.not_mem_nil, or_false] at hk
  rcases hk with rfl | rfl | rfl | rfl | rfl | rfl | rfl | rfl | rfl | rfl | rfl | rfl | rfl | rfl <;> assumption
end Go.Proofs.YtcogkhcfpgelhabGreat

namespace Go.Proofs.YtcogkhcfpgelhabGreat
open Go.RowKit
set_option linter.unusedVariables false
set_option maxRecDepth 100000
variable {fb mb : Nat} {ot : Option Nat} {L : Int → Lay} {T : List Ac} {w w' V : World} {X : Im} {o : Oq}
/-! ### Image, in the image's words -/
theorem i64_of {x : Int} (h1 : 0 ≤ x) (h2 : x ≤ 1099511627776) : I64 x := by unfold I64; omega
theorem image_X (hX : WF X) (hF : totE X.l ≤ 1000000) (H : FsH fb mb ot L (hOf X) (qOf X.l) X.l.length T w) : Calls Tryz.prog 13 #[.pointer (some ⟨fb, 0, none⟩)] w (CpO w X) := by
  have hq : ∀ x ∈ X.l, qOf X.l x.num = some (pnOf X.l x) := fun x hx => qOf_get (get_mem hX.srt hx)
  have h1 : Ents MI (fun k => (qOf X.l k).map fun _ => (L k).ib) X.l.length (X.l.map (fun x => (x.num, (L x.num).ib))) := by
    refine ⟨by simp, ?_, fun e he => ?_⟩
    · rw [List.map_map, List.nodup_iff_pairwise_ne, List.pairwise_map]
      exact hX.srt.imp (fun {a b} h => by simp only [Function.comp]; omega)
    · obtain ⟨x, hx, rfl⟩ := List.mem_map.1 he
      have := hX.nums x hx
      have := hX.x2
      exact ⟨i64_of (by simp only; omega) (by simp only; omega), by simp only [hq x hx]; rfl⟩
  have h2 : ((X.l.map (fun x => (x.num, (L x.num).ib))).map Prod.fst).Pairwise (fun a b => a < b) := by
    rw [List.map_map, List.pairwise_map]
    exact hX.srt
  have h3 : ImH (qOf X.l) (fun k => ((get X.l k).map (·.ents)).getD []) := fun k p hp => by
    obtain ⟨x, hg, hm, hn, rfl⟩ := qOf_some hp
    simp only [hg, Option.map_some, Option.getD_some]
    refine ⟨fun _ => ⟨wf_ents hX hm, Nat.le_trans (sumF_mem (fun x => x.ents.length) hm) hF⟩, fun hk => ?_, hX.esrt x hm, (hX.kinds x hm).len⟩
    have hk : x.kind ≠ 1 := hk
    rcases (hX.kinds x hm).2 with h | h | h
    · exact absurd h.1 hk
    · exact h.2.2.2
    · exact h.2.2.2
  have h4 : (X.l.map (fun x => (x.num, (L x.num).ib))) ≠ [] := by
    obtain ⟨r, t, e, _⟩ := hX.rt
    rw [e]; simp
  refine Calls.mono (image_any H h1 h2 (by have := wf_cnt hX; omega) h4 h3) (fun e w' hh => ?_)
  obtain ⟨a, n, c, l, e1, e2, e3, e4⟩ := hh
  refine ⟨a, n, c, l, e1, e2, ?_, e4⟩
  rw [e3, List.map_map, List.map_map]
  have : ∀ x ∈ X.l, (ndq (qOf X.l) (fun k => ((get X.l k).map (·.ents)).getD []) ∘ Prod.fst ∘ fun x => (x.num, (L x.num).ib)) x = x := fun x hx => by
    simp only [Function.comp]
    unfold ndq
    rw [hq x hx]
    simp only [get_mem hX.srt hx, Option.map_some, Option.getD_some]
    rfl
  exact (List.map_congr_left (g := id) this).trans (List.map_id _)
/-! ### A file system that is loaded -/
def rtX : Im := ⟨9, 99, 2, [⟨1, 1, ⟨0, 0, 0, 0, 0⟩, [], [], []⟩]⟩
theorem rtX_q : rootQ = qOf rtX.l := by
  funext k
  unfold rootQ qOf rtX get
  by_cases h : k = 1
  · subst h; rw [if_pos rfl]; rfl
  · rw [if_neg h]
    have : ¬ (1 : Int) = k := fun e => h e.symm
    simp [this]
theorem rtX_wf : WF rtX := by
  refine ⟨by decide, by decide, by decide, by decide, by decide, by decide, ?_, ⟨_, _, rfl, rfl, rfl⟩, ?_, by decide, ?_, by decide, ?_, ?_, ?_, ?_, ⟨fun _ => 0, ?_⟩⟩ <;> simp [rtX, NdOk] <;> decide
def ldX (X : Im) (X' : Im) : Prop := WF X' ∧ totE X'.l ≤ totE X.l
theorem ldX_cases (X : Im) : (WF X ∧ ldX X X) ∨ (¬ WF X ∧ ldX X rtX) := by
  by_cases h : WF X
  · exact .inl ⟨h, h, Nat.le_refl _⟩
  · exact .inr ⟨h, rtX_wf, by show (0 : Nat) ≤ _; exact Nat.zero_le _⟩
def LdO (X : Im) (w : World) (e : Ending) (w' : World) : Prop := ∃ fb mb X', e = .returned (.pointer (some ⟨fb, 0, none⟩)) ∧ ldX X X' ∧ Blt X' w fb mb w'
set_option maxHeartbeats 4000000 in
theorem loaded_any (X : Im) (l : List Nq) (a : Option Addr) (n c : Nat) (hl : l.map Nq.x = X.l) (hn : n = l.length) (hm : ImR (.slice a n c) l w) (hw : ∀ y ∈ l, NdW y.x) (hn9 : n ≤ 1000000000) :
    Calls Tryz.prog 15 #[imV X (.slice a n c)] w (LdO X w) := by
  obtain ⟨P, hP⟩ : ∃ P : Ending → World → Prop, P = LdO X w := ⟨_, rfl⟩
  rw [← hP]
  obtain ⟨V, hV⟩ : ∃ V, V = w.alloc (.cells (ciC X (.slice a n c)) 24) := ⟨_, rfl⟩
  have hN : Nw w V := by rw [hV]; exact (Fr.refl _ _).alloc _
  have hc : ∀ j v, (ciC X (.slice a n c))[j]? = some v → V.cell? ⟨w.heap.size, j, none⟩ = some v := fun j v hv => by rw [hV]; exact (rc (nh w _) j v hv).1
  have c0 := hc 0 _ rfl
  have c1 := hc 1 _ rfl
  have c2 := hc 2 _ rfl
  have c3 := hc 3 _ rfl
  have HC : Hid (Calls Tryz.prog 10 #[imV X (.slice a n c)] V fun e w1 => ∃ a1 n1 c1, e = .returned (imV X (.slice a1 n1 c1)) ∧ Hid (Calls Tryz.prog 9 #[imV X (.slice a1 n1 c1)] w1 fun e w2 => ∃ (p : Option Addr) (er : Int), e = .returned (.tuple #[.pointer p, .int .i64 er]) ∧ Hid ((p = none ∧ er = 3 ∧ ¬ WF X ∧ Nw w w2) ∨ (er = 0 ∧ ∃ fb, p = some ⟨fb, 0, none⟩ ∧ P (.returned (.pointer (some ⟨fb, 0, none⟩))) w2)))) := by
    refine Calls.mono (copy_any X l a n c hl hn (hm.nw hN) hw hn9) (fun e w1 hh => ?_)
    obtain ⟨a1, n1, c1, l1, e1, e2, e3, e4⟩ := hh
    refine ⟨a1, n1, c1, e1, ?_⟩
    have hw1 : ∀ y ∈ l1, NdW y.x := fun y hy => by
      have : y.x ∈ l.map Nq.x := by rw [hl, ← e3]; exact List.mem_map_of_mem hy
      obtain ⟨z, hz, hzy⟩ := List.mem_map.1 this
      rw [← hzy]; exact hw z hz
    refine Calls.mono (load_any X l1 a1 n1 c1 e3 e4.symm e2.r hw1) (fun e w2 hh => ?_)
    have n1' : Nw w w1 := hN.trans e2.1
    rcases hh with ⟨h1, rfl, h2⟩ | ⟨h1, fb, mb, rfl, h2⟩
    · exact ⟨none, 3, rfl, .inl ⟨rfl, rfl, h1, n1'.trans h2⟩⟩
    · refine ⟨_, 0, rfl, .inr ⟨rfl, fb, rfl, ?_⟩⟩
      rw [hP]
      obtain ⟨L, k1, k2, k3⟩ := h2
      have := n1'.size
      exact ⟨fb, mb, X, rfl, ⟨h1, Nat.le_refl _⟩, L, k1, n1'.trans k2, fun k hk => by have := k3 k hk; omega⟩
  have HN : Hid (∀ V2, ¬ WF X → Nw w V2 → Calls Tryz.prog 24 #[.int .i64 9, .int .i64 99] V2 fun e w' => ∃ fb, e = .returned (.tuple #[.pointer (some ⟨fb, 0, none⟩), .int .i64 0]) ∧ Hid (P (.returned (.pointer (some ⟨fb, 0, none⟩))) w')) := fun V2 hnw h2 => by
    refine Calls.mono (new_any 9 99 V2) (fun e w' hh => ?_)
    rcases hh with ⟨h1, _⟩ | ⟨_, fb, mb, rfl, L, k1, k2, k3⟩
    · exact absurd h1 (by decide)
    · refine ⟨fb, rfl, ?_⟩
      show P _ _
      rw [hP]
      have := h2.size
      rw [rtX_q] at k1 k3
      exact ⟨fb, mb, rtX, rfl, ⟨rtX_wf, by show (0 : Nat) ≤ _; exact Nat.zero_le _⟩, L, k1, h2.trans k2, fun k hk => by have := k3 k hk; omega⟩
  have HV := tHid hV
  clear hc hV hP hl hn hm hw hn9 hN
  go_enter Tryz.func15, Tryz.ntmps15
  go_upto_region 1 with fail
  rw [← HV.out]
  clear HV
  go_upto_region 2 with (first
    | (go_at_call 10; with_reducible refine HC.out.mono ?_; rintro e w1 ⟨a1, n1, c1, rfl, H1⟩)
    | (go_at_call 9; with_reducible refine H1.out.mono ?_; rintro e w2 ⟨p, er, rfl, H2⟩))
  clear HC H1
  rcases H2.out with ⟨rfl, rfl, h3, h4⟩ | ⟨rfl, fb, rfl, h3⟩
  · have H5 := tHid (HN.out w2 h3 h4)
    clear HN H2 h3 h4
    go_wp2_with (first | (go_at_call 24; with_reducible refine H5.out.mono ?_; rintro e w3 ⟨fb, rfl, H6⟩))
    exact H6.out
  · have H3 := tHid h3
    clear HN H2 h3
    go_wp2_with fail
    exact H3.out
end Go.Proofs.YtcogkhcfpgelhabGreat
