import Derived.Test.YtcogkhcfpgelhaaGreatVaw
import Derived.Test.YtcogkhcfpgelhaaGreatVax
namespace Go.Proofs.YtcogkhcfpgelhaaGreat
open Go.RowKit
set_option linter.unusedVariables false
set_option maxRecDepth 100000
/-! ### A file system that is being built: directories may have no map of entries yet -/
structure NdG (b : Bool) (y : Lay) (p : Pn) (w : World) : Prop where
  blk : ∃ dv ev, w.heap[y.ib]? = some (.cells (ndC p dv ev) 104) ∧ OgB y.od dv p.data w ∧ (b = true → ev = .map (some y.eb) ∧ Mp ME y.eb p.ents p.ne w) ∧ (b = false → ev = .map none ∧ p.ne = 0 ∧ ∀ s, p.ents s = none)
theorem NdG.kept {b : Bool} {y : Lay} {p : Pn} {w w' : World} {X : Nat → Prop} (h : NdG b y p w) (f : Fr X w w') (h1 : ¬ X y.ib) (h2 : b = true → ¬ X y.eb) (h3 : ∀ g, y.od = some g → ¬ X g) : NdG b y p w' := by
  obtain ⟨dv, ev, k1, k2, k3, k4⟩ := h.blk
  exact ⟨dv, ev, f.heap k1 h1, k2.kept f h3, fun hk => ⟨(k3 hk).1, (k3 hk).2.kept f (h2 hk)⟩, k4⟩
def BkG (md : Int → Bool) (fb mb : Nat) (L : Int → Lay) (q : Int → Option Pn) (k : Nat) : Prop := k = fb ∨ k = mb ∨ ∃ n p, q n = some p ∧ (k = (L n).ib ∨ md n = true ∧ k = (L n).eb ∨ (L n).od = some k)
structure FsG (md : Int → Bool) (fb mb : Nat) (L : Int → Lay) (h : Hx) (q : Int → Option Pn) (cnt : Nat) (w : World) : Prop where
  blk : w.heap[fb]? = some (.cells #[.map (some mb), .int .i64 h.nodes, .int .i64 h.bytes, .int .i64 h.held, .int .i64 h.next, .slice none 0 0] 100)
  mp : Mp MI mb (fun k => (q k).map fun _ => (L k).ib) cnt w
  nd : ∀ k p, q k = some p → NdG (md k) (L k) p w
  inj : ∀ k k' p p', q k = some p → q k' = some p' → k ≠ k' → (L k).ib ≠ (L k').ib ∧ (md k = true → md k' = true → (L k).eb ≠ (L k').eb) ∧ ∀ g, (L k).od = some g → (L k').od ≠ some g
  ebm : ∀ k p, q k = some p → md k = true → (L k).eb ≠ mb
variable {md : Int → Bool} {fb mb : Nat} {L : Int → Lay} {h : Hx} {q : Int → Option Pn} {cnt : Nat} {w w' : World} {X : Nat → Prop}
theorem FsG.kept (H : FsG md fb mb L h q cnt w) (f : Fr X w w') (hx : ∀ k, X k → ¬ BkG md fb mb L q k) : FsG md fb mb L h q cnt w' := by
  refine ⟨f.heap H.blk (fun e => hx fb e (.inl rfl)), H.mp.kept f (fun e => hx mb e (.inr (.inl rfl))), fun k p hp => (H.nd k p hp).kept f (fun e => hx _ e (.inr (.inr ⟨k, p, hp, .inl rfl⟩))) (fun hk e => hx _ e (.inr (.inr ⟨k, p, hp, .inr (.inl ⟨hk, rfl⟩)⟩))) (fun g hg e => hx _ e (.inr (.inr ⟨k, p, hp, .inr (.inr hg)⟩))), H.inj, H.ebm⟩
theorem FsG.nw (H : FsG md fb mb L h q cnt w) (f : Nw w w') : FsG md fb mb L h q cnt w' := H.kept f (fun _ h => h.elim)
theorem FsG.lt (H : FsG md fb mb L h q cnt w) (k : Nat) (hk : BkG md fb mb L q k) : k < w.heap.size := by
  rcases hk with rfl | rfl | ⟨n, p, hp, hk⟩
  · exact blt H.blk
  · exact H.mp.lt
  · obtain ⟨dv, ev, k1, k2, k3, k4⟩ := (H.nd n p hp).blk
    rcases hk with rfl | ⟨hk, rfl⟩ | hk
    · exact blt k1
    · exact (k3 hk).2.lt
    · rw [hk] at k2; exact OgB.lt k2
theorem FsG.tfb (H : FsG md fb mb L h q cnt w) : tg w fb = some 100 := tg_cells H.blk
theorem FsG.tmb (H : FsG md fb mb L h q cnt w) : tg w mb = none := H.mp.tg
theorem FsG.tib (H : FsG md fb mb L h q cnt w) {k : Int} {p : Pn} (hp : q k = some p) : tg w (L k).ib = some 104 := by
  obtain ⟨dv, ev, k1, _⟩ := (H.nd k p hp).blk
  exact tg_cells k1
theorem FsG.teb (H : FsG md fb mb L h q cnt w) {k : Int} {p : Pn} (hp : q k = some p) (hk : md k = true) : tg w (L k).eb = none := by
  obtain ⟨dv, ev, _, _, k3, _⟩ := (H.nd k p hp).blk
  exact (k3 hk).2.tg
theorem FsG.tod (H : FsG md fb mb L h q cnt w) {k : Int} {p : Pn} (hp : q k = some p) (g : Nat) (hg : (L k).od = some g) : tg w g = some 5 := by
  obtain ⟨dv, ev, _, k2, _⟩ := (H.nd k p hp).blk
  rw [hg] at k2
  exact k2.tg
/-- One inode turned; it may have got its map of entries. -/
theorem FsG.turn (H : FsG md fb mb L h q cnt w) {n : Int} {p p' : Pn} (hp : q n = some p) {b' : Bool} {eb' : Nat} (hb : (b' = md n ∧ eb' = (L n).eb) ∨ w.heap.size ≤ eb') (f : Fr X w w') (hX : ∀ k, X k → k = (L n).ib ∨ md n = true ∧ k = (L n).eb)
    (hN : NdG b' ⟨(L n).ib, eb', (L n).od⟩ p' w') : FsG (fun k => if k = n then b' else md k) fb mb (fun k => if k = n then ⟨(L n).ib, eb', (L n).od⟩ else L k) h (fun k => if k = n then some p' else q k) cnt w' := by
  have hXt : ∀ k, X k → tg w k = some 104 ∧ k = (L n).ib ∨ tg w k = none ∧ k = (L n).eb ∧ md n = true := fun k hx => by
    rcases hX k hx with rfl | ⟨hk1, rfl⟩
    · exact .inl ⟨H.tib hp, rfl⟩
    · exact .inr ⟨H.teb hp hk1, rfl, hk1⟩
  refine ⟨f.heap H.blk (fun e => ?_), (H.mp.kept f (fun e => ?_)).cong (fun k _ => ?_), fun k p2 hp2 => ?_, fun k k' p1 p2 hp1 hp2 hne => ?_, fun k p2 hp2 hk2 => ?_⟩
  · rcases hXt fb e with ⟨t, _⟩ | ⟨t, _, _⟩ <;> rw [H.tfb] at t <;> cases t
  · rcases hXt mb e with ⟨t, _⟩ | ⟨_, t, hk1⟩
    · rw [H.tmb] at t; cases t
    · exact H.ebm n p hp hk1 t.symm
  · by_cases hkn : k = n
    · subst hkn
      simp only [if_true, hp]
      rfl
    · simp only [if_neg hkn]
  · by_cases hkn : k = n
    · subst hkn
      simp only [if_true, Option.some.injEq] at hp2 ⊢
      subst hp2
      exact hN
    · simp only [if_neg hkn] at hp2 ⊢
      have hi := H.inj k n p2 p hp2 hp hkn
      refine (H.nd k p2 hp2).kept f (fun e => ?_) (fun hk2 e => ?_) (fun g hg e => ?_)
      · rcases hXt _ e with ⟨_, t⟩ | ⟨t, _, _⟩
        · exact hi.1 t
        · rw [H.tib hp2] at t; cases t
      · rcases hXt _ e with ⟨t, _⟩ | ⟨_, t, hk1⟩
        · rw [H.teb hp2 hk2] at t; cases t
        · exact hi.2.1 hk2 hk1 t
      · have ht := H.tod hp2 g hg
        rcases hXt _ e with ⟨t, _⟩ | ⟨t, _, _⟩
        · rw [ht] at t; cases t
        · rw [ht] at t; cases t
  · have heb : ∀ j p3, q j = some p3 → j ≠ n → b' = true → md j = true → eb' ≠ (L j).eb := fun j p3 hj hjn hb1 hm e => by
      rcases hb with ⟨e1, e2⟩ | hge
      · exact (H.inj n j p p3 hp hj (fun e => hjn e.symm)).2.1 (e1 ▸ hb1) hm (e2 ▸ e)
      · have := H.lt _ (.inr (.inr ⟨j, p3, hj, .inr (.inl ⟨hm, rfl⟩)⟩))
        omega
    by_cases hkn : k = n
    · subst hkn
      have hk' : k' ≠ k := fun e => hne e.symm
      simp only [if_true, if_neg hk', Option.some.injEq] at hp1 hp2 ⊢
      have hi := H.inj k k' p p2 hp hp2 hne
      exact ⟨hi.1, fun a b => heb k' p2 hp2 hk' a b, hi.2.2⟩
    · by_cases hkn' : k' = n
      · subst hkn'
        simp only [if_true, if_neg hkn, Option.some.injEq] at hp1 hp2 ⊢
        have hi := H.inj k k' p1 p hp1 hp hne
        exact ⟨hi.1, fun a b e => heb k p1 hp1 hkn b a e.symm, hi.2.2⟩
      · simp only [if_neg hkn, if_neg hkn'] at hp1 hp2 ⊢
        exact H.inj k k' p1 p2 hp1 hp2 hne
  · by_cases hkn : k = n
    · subst hkn
      simp only [if_true, Option.some.injEq] at hp2 hk2 ⊢
      rcases hb with ⟨e1, e2⟩ | hge
      · rw [e2]; exact H.ebm k p hp (e1 ▸ hk2)
      · have := H.mp.lt; omega
    · simp only [if_neg hkn] at hp2 hk2 ⊢
      exact H.ebm k p2 hp2 hk2
theorem FsG.turnS (H : FsG md fb mb L h q cnt w) {n : Int} {p p' : Pn} (hp : q n = some p) (f : Fr X w w') (hX : ∀ k, X k → k = (L n).ib ∨ md n = true ∧ k = (L n).eb)
    (hN : NdG (md n) (L n) p' w') : FsG md fb mb L h (fun k => if k = n then some p' else q k) cnt w' := by
  have := H.turn hp (b' := md n) (eb' := (L n).eb) (.inl ⟨rfl, rfl⟩) f hX hN
  have e : (fun k => if k = n then (⟨(L n).ib, (L n).eb, (L n).od⟩ : Lay) else L k) = L := by
    funext k
    by_cases hk : k = n
    · rw [if_pos hk, hk]
    · rw [if_neg hk]
  have e2 : (fun k => if k = n then md n else md k) = md := by
    funext k
    by_cases hk : k = n
    · rw [if_pos hk, hk]
    · rw [if_neg hk]
  rw [e, e2] at this
  exact this
theorem FsG.look (H : FsG md fb mb L h q cnt w) {k : Int} (hk : I64 k) {p : Pn} (hq : q k = some p) : (Instr.lookup 98 (.map (some mb)) (.int .i64 k) false).run Tryz.prog w = .ok (.pointer (some ⟨(L k).ib, 0, none⟩)) w := by
  have := H.mp.look1 miOk k hk
  simp only [hq] at this
  exact this
/-- The head turned. -/
theorem FsG.head (H : FsG md fb mb L h q cnt w) (f : Fr (fun k => k = fb) w w') {h' : Hx}
    (hb : w'.heap[fb]? = some (.cells #[.map (some mb), .int .i64 h'.nodes, .int .i64 h'.bytes, .int .i64 h'.held, .int .i64 h'.next, .slice none 0 0] 100)) : FsG md fb mb L h' q cnt w' := by
  refine ⟨hb, H.mp.kept f (fun e => ?_), fun k p2 hp2 => (H.nd k p2 hp2).kept f (fun e => ?_) (fun hk2 e => ?_) (fun g hg e => ?_), H.inj, H.ebm⟩
  · have := H.tmb; rw [e, H.tfb] at this; cases this
  · have := H.tib hp2; rw [e, H.tfb] at this; exact absurd this (by decide)
  · have := H.teb hp2 hk2; rw [e, H.tfb] at this; cases this
  · have := H.tod hp2 g hg; rw [e, H.tfb] at this; exact absurd this (by decide)
/-- An inode's own cells turned. -/
theorem NdG.re {b : Bool} {y : Lay} {p p' : Pn} (hN : NdG b y p w) (f : Fr (fun k => k = y.ib) w w') (e1 : p'.data = p.data) (e2 : p'.ents = p.ents) (e3 : p'.ne = p.ne)
    (hh : ∀ dv ev, w.heap[y.ib]? = some (.cells (ndC p dv ev) 104) → w'.heap[y.ib]? = some (.cells (ndC p' dv ev) 104)) : NdG b y p' w' := by
  obtain ⟨dv, ev, k1, k2, k3, k4⟩ := hN.blk
  have t1 := tg_cells k1
  refine ⟨dv, ev, hh dv ev k1, ?_, fun hk => ?_, fun hk => ?_⟩
  · rw [e1]
    refine k2.kept f (fun g hg e => ?_)
    rw [hg] at k2
    have := k2.tg
    rw [e, t1] at this; cases this
  · rw [e2, e3]
    refine ⟨(k3 hk).1, (k3 hk).2.kept f (fun e => ?_)⟩
    have := (k3 hk).2.tg
    rw [e, t1] at this; cases this
  · rw [e2, e3]
    exact k4 hk
/-- A new inode, without a map of entries. -/
theorem FsG.more (H : FsG md fb mb L h q cnt w) (hcn : cnt ≤ 1000000) {n : Int} (hn64 : I64 n) (hn : q n = none) (hmd : md n = false) {p : Pn} {ib : Nat} {od : Option Nat} (hib : ∀ k, BkG md fb mb L q k → k ≠ ib) (hod : ∀ g, od = some g → ∀ k, BkG md fb mb L q k → k ≠ g) {dv : Value} (hI : w.heap[ib]? = some (.cells (ndC p dv (.map none)) 104)) (hO : OgB od dv p.data w) (hne : p.ne = 0 ∧ ∀ s, p.ents s = none) :
    ∃ W, (Instr.mapUpdate 98 (.map (some mb)) (.int .i64 n) (.pointer (some ⟨ib, 0, none⟩))).run Tryz.prog w = .ok () W ∧ FsG md fb mb (fun k => if k = n then ⟨ib, 0, od⟩ else L k) h (fun k => if k = n then some p else q k) (cnt + 1) W ∧ Fr (fun k => k = mb) w W := by
  obtain ⟨W, r1, r2, r3⟩ := H.mp.store miOk n hn64 ib trivial (by omega)
  refine ⟨W, r1, ⟨r3.heap H.blk (fun e => ?_), ?_, fun k p2 hp2 => ?_, fun k k' p1 p2 hp1 hp2 hne2 => ?_, fun k p2 hp2 hk2 => ?_⟩, r3⟩
  · have := H.tfb; rw [e, H.tmb] at this; cases this
  · have := r2 (fun k => ((if k = n then some p else q k) : Option Pn).map fun _ => ((if k = n then ⟨ib, 0, od⟩ else L k) : Lay).ib) (fun x _ => by
      by_cases hx : x = n
      · simp [hx]
      · simp [hx])
    rw [hn] at this
    exact this
  · by_cases hkn : k = n
    · subst hkn
      simp only [if_true, Option.some.injEq] at hp2 ⊢
      subst hp2
      rw [hmd]
      refine ⟨dv, .map none, r3.heap hI (fun e => hib mb (.inr (.inl rfl)) e.symm), hO.kept r3 (fun g hg e => hod g hg mb (.inr (.inl rfl)) e.symm), (fun hk => by cases hk), fun _ => ⟨rfl, hne.1, hne.2⟩⟩
    · simp only [if_neg hkn] at hp2 ⊢
      refine (H.nd k p2 hp2).kept r3 (fun e => ?_) (fun hk2 e => ?_) (fun g hg e => ?_)
      · have := H.tib hp2; rw [e, H.tmb] at this; cases this
      · exact H.ebm k p2 hp2 hk2 e
      · have := H.tod hp2 g hg; rw [e, H.tmb] at this; cases this
  · by_cases hkn : k = n
    · subst hkn
      have hk' : k' ≠ k := fun e => hne2 e.symm
      simp only [if_true, if_neg hk', Option.some.injEq] at hp1 hp2 ⊢
      exact ⟨fun e => hib _ (.inr (.inr ⟨k', p2, hp2, .inl rfl⟩)) e.symm, fun a => (by rw [hmd] at a; cases a), fun g hg e => hod g hg g (.inr (.inr ⟨k', p2, hp2, .inr (.inr e)⟩)) rfl⟩
    · by_cases hkn' : k' = n
      · subst hkn'
        simp only [if_true, if_neg hkn, Option.some.injEq] at hp1 hp2 ⊢
        exact ⟨fun e => hib _ (.inr (.inr ⟨k, p1, hp1, .inl rfl⟩)) e, fun a b => (by rw [hmd] at b; cases b), fun g hg e => hod g e g (.inr (.inr ⟨k, p1, hp1, .inr (.inr hg)⟩)) rfl⟩
      · simp only [if_neg hkn, if_neg hkn'] at hp1 hp2 ⊢
        exact H.inj k k' p1 p2 hp1 hp2 hne2
  · by_cases hkn : k = n
    · subst hkn; rw [hmd] at hk2; cases hk2
    · simp only [if_neg hkn] at hp2 ⊢
      exact H.ebm k p2 hp2 hk2
/-- All directories have their entries: it is a file system. -/
theorem FsG.fs (H : FsG md fb mb L h q cnt w) (hmd : ∀ k p, q k = some p → (md k = true ↔ p.kind = 1)) : FsH fb mb none L h q cnt [] w := by
  refine ⟨⟨.slice none 0 0, H.blk, rfl, rfl⟩, H.mp, fun k p hp => ?_, fun k k' p p' hp hp' hne => ?_, fun k p hp hk => H.ebm k p hp ((hmd k p hp).2 hk)⟩
  · obtain ⟨dv, ev, k1, k2, k3, k4⟩ := (H.nd k p hp).blk
    refine ⟨dv, ev, k1, k2, fun hk => k3 ((hmd k p hp).2 hk), fun hk => k4 ?_⟩
    cases hm : md k with
    | false => rfl
    | true => exact absurd ((hmd k p hp).1 hm) hk
  · obtain ⟨a, b, c⟩ := H.inj k k' p p' hp hp' hne
    exact ⟨a, fun h1 h2 => b ((hmd k p hp).2 h1) ((hmd k' p' hp').2 h2), c⟩
theorem entG_store (H : FsG md fb mb L h q cnt w) {d n : Int} {s : Tx} (hs : s.length ≤ 140737488351232) {pd : Pn} (hd : q d = some pd) (hk : md d = true) (hf : pd.ents s = none) (hne : pd.ne ≤ 1000000000000000) :
    ∃ W, (Instr.mapUpdate 102 (.map (some (L d).eb)) (.string (mk s)) (.int .i64 n)).run Tryz.prog w = .ok () W ∧ FsG md fb mb L h (fun k => if k = d then some (putEnt pd s n) else q k) cnt W ∧ Fr (fun k => k = (L d).eb) w W := by
  obtain ⟨dv, ev, k1, k2, k3, k4⟩ := (H.nd d pd hd).blk
  obtain ⟨W, r1, r2, r3⟩ := (k3 hk).2.store meOk s hs n trivial hne
  refine ⟨W, r1, H.turnS hd r3 (fun k e => .inr ⟨hk, e⟩) ⟨dv, ev, ?_, ?_, fun _ => ⟨(k3 hk).1, ?_⟩, fun hn => (by rw [hk] at hn; cases hn)⟩, r3⟩
  · exact r3.heap k1 (fun e => by have := (k3 hk).2.tg; rw [← e, tg_cells k1] at this; cases this)
  · exact k2.kept r3 (fun g hg e => by rw [hg] at k2; have := k2.tg; rw [e, (k3 hk).2.tg] at this; cases this)
  · have := r2 (putEnt pd s n).ents (fun x _ => rfl)
    rw [hf] at this
    exact this
set_option maxHeartbeats 4000000 in
theorem enterG_any (H : FsG md fb mb L h q cnt w) (d n : Int) (hd64 : I64 d) (hn64 : I64 n) (s : Tx) (hs : s.length ≤ 140737488351232) {pd pn : Pn} (hd : q d = some pd) (hk : md d = true) (hf : pd.ents s = none) (hne : pd.ne ≤ 1000000000000000) (hn : q n = some pn) (hdn : d ≠ n) (hl : 0 ≤ pn.links ∧ pn.links ≤ 1000000000000000) :
    Calls Tryz.prog 100 #[.pointer (some ⟨fb, 0, none⟩), .agg #[.int .i64 d, .string (mk s)], .int .i64 n] w fun e w' => (∃ r, e = .returned r) ∧ FsG md fb mb L h (entQ q d s n) cnt w' ∧ Fr (fun k => k = (L d).eb ∨ k = (L n).ib) w w' := by
  obtain ⟨P, hP⟩ : ∃ P : Ending → World → Prop, P = fun e w' => (∃ r, e = .returned r) ∧ FsG md fb mb L h (entQ q d s n) cnt w' ∧ Fr (fun k => k = (L d).eb ∨ k = (L n).ib) w w' := ⟨_, rfl⟩
  rw [← hP]
  obtain ⟨V, hV⟩ : ∃ V, V = w.alloc (.cells #[.int .i64 d, .string (mk s)] 127) := ⟨_, rfl⟩
  have hN : Nw w V := by rw [hV]; exact (Fr.refl _ _).alloc _
  have HV := H.nw hN
  have c0 := (rc HV.blk 0 _ rfl).1
  have hfl := blt H.blk
  obtain ⟨dv, ev, kk1, kk2, kk3, _⟩ := (HV.nd d pd hd).blk
  rw [(kk3 hk).1] at kk1
  have hC := ndc_of kk1
  have x8 := hC.c8
  have hl1 : (Instr.lookup 98 (.map (some mb)) (.int .i64 d) false).run Tryz.prog V.drew = .ok (.pointer (some ⟨(L d).ib, 0, none⟩)) V.drew := (HV.nw ((Fr.refl _ _).drew)).look hd64 hd
  have b0 : V.cell? ⟨w.heap.size, 0, none⟩ = some (.int .i64 d) := by rw [hV]; exact (rc (nh w _) 0 _ rfl).1
  have b1 : V.cell? ⟨w.heap.size, 1, none⟩ = some (.string (mk s)) := by rw [hV]; exact (rc (nh w _) 1 _ rfl).1
  obtain ⟨W, hmu, HW, hfW⟩ := entG_store (n := n) (HV.nw ((Fr.refl _ _).drew)) hs hd hk hf hne
  have hnW : (if n = d then some (putEnt pd s n) else q n) = some pn := by rw [if_neg (fun e => hdn e.symm)]; exact hn
  have d0 := (rc HW.blk 0 _ rfl).1
  have hl2 := HW.look (k := n) hn64 hnW
  obtain ⟨dv2, ev2, nv1, _, _, _⟩ := (HW.nd n pn hnW).blk
  have hD := ndc_of nv1
  have y0 := hD.c0
  have y9 := hD.c9
  have g9 := hD.f9
  have b2 : W.cell? ⟨w.heap.size, 0, none⟩ = some (.int .i64 d) := by
    refine hfW.cellv (v := .int .i64 d) (p := ⟨w.heap.size, 0, none⟩) b0 (fun e => ?_)
    have e : w.heap.size = (L d).eb := e
    have := H.lt _ (.inr (.inr ⟨d, pd, hd, .inr (.inl ⟨hk, rfl⟩)⟩))
    omega
  have hib : (L n).ib < w.heap.size := H.lt _ (.inr (.inr ⟨n, pn, hn, .inl rfl⟩))
  have hnb : ¬ (L n).ib = w.heap.size := by omega
  have hnb2 : ¬ w.heap.size = (L n).ib := by omega
  have hfW0 : Fr (fun k => k = (L d).eb ∨ k = (L n).ib) w W := (hN.any.trans (Fr.refl _ _).drew).trans (hfW.mono (fun i e => .inl (.inl e)))
  obtain ⟨W2, hW2⟩ : ∃ W2, W2 = W.setCell ⟨(L n).ib, 9, none⟩ (.int .i64 (pn.links + 1)) := ⟨_, rfl⟩
  have heq : entQ q d s n = fun k => if k = n then some (named1 pn d) else (if k = d then some (putEnt pd s n) else q k) := by
    funext k
    unfold entQ
    rw [hn, hd]; rfl
  have hw1 : IntKind.i64.wrap (pn.links + 1) = pn.links + 1 := by rw [IntKind.wrap_i64]; omega
  by_cases hk1 : pn.kind = 1
  · have ga : W2.frozen? ⟨(L n).ib, 10, none⟩ = false := by rw [hW2]; exact (rc (rset nv1 9 _) 10 _ rfl).2
    have ya : W2.cell? ⟨(L n).ib, 10, none⟩ = some (.int .i64 pn.up) := by rw [hW2]; exact (rc (rset nv1 9 _) 10 _ rfl).1
    have yk : W2.cell? ⟨(L n).ib, 0, none⟩ = some (.int .i64 1) := by rw [hW2, ← hk1]; exact (rc (rset nv1 9 _) 0 _ rfl).1
    have b3 : W2.cell? ⟨w.heap.size, 0, none⟩ = some (.int .i64 d) := by
      rw [hW2]
      exact Fr.cellv ((Fr.refl (fun k => k = (L n).ib) W).setCell ⟨(L n).ib, 9, none⟩ _ (.inl rfl)) b2 (fun e => hnb2 e)
    have HF : Hid (∀ r, P (.returned r) (W2.setCell ⟨(L n).ib, 10, none⟩ (.int .i64 d))) := fun r => by
      rw [hP, heq]
      have f2 : Fr (fun k => k = (L n).ib) W (W2.setCell ⟨(L n).ib, 10, none⟩ (.int .i64 d)) := by
        rw [hW2]
        exact ((Fr.refl (fun k => k = (L n).ib) W).setCell ⟨(L n).ib, 9, none⟩ _ (.inl rfl)).setCell ⟨(L n).ib, 10, none⟩ _ (.inl rfl)
      refine ⟨⟨r, rfl⟩, HW.turnS hnW f2 (fun k e => .inl e) ((HW.nd n pn hnW).re f2 rfl rfl rfl (fun dv ev hh => ?_)), hfW0.trans (f2.mono (fun i e => .inl (.inr e)))⟩
      have := rset (rset hh 9 (.int .i64 (pn.links + 1))) 10 (.int .i64 d)
      rw [← hW2] at this
      rw [this]
      simp [ndC, named1, hk1]
    clear kk1 kk2 kk3 H HV hC HW hD nv1 hfW hfW0 hP heq hn hd hnW hk hf
    rw [hk1] at y0
    clear hk1
    generalize (L d).ib = ib at *
    generalize (L d).eb = eb at *
    generalize (L n).ib = nb at *
    generalize mk s = ss at *
    generalize pn.links = lk at *
    generalize pn.up = up at *
    go_enter Tryz.func100, Tryz.ntmps100
    go_upto_region 1 with fail
    rw [← hV]
    clear hV
    go_region
    go_upto_region 4 with fail
    rw [← hW2]
    clear hW2
    go_wp2_with fail
    first | exact HF.out _ | (go_end0; exact HF.out _)
  · have hkb : (pn.kind == 1) = false := by rw [beq_eq_false_iff_ne]; exact hk1
    have yk : W2.cell? ⟨(L n).ib, 0, none⟩ = some (.int .i64 pn.kind) := by rw [hW2]; exact (rc (rset nv1 9 _) 0 _ rfl).1
    have HF : Hid (∀ r, P (.returned r) W2) := fun r => by
      rw [hP, heq]
      have f2 : Fr (fun k => k = (L n).ib) W W2 := by
        rw [hW2]
        exact (Fr.refl (fun k => k = (L n).ib) W).setCell ⟨(L n).ib, 9, none⟩ _ (.inl rfl)
      refine ⟨⟨r, rfl⟩, HW.turnS hnW f2 (fun k e => .inl e) ((HW.nd n pn hnW).re f2 rfl rfl rfl (fun dv ev hh => ?_)), hfW0.trans (f2.mono (fun i e => .inl (.inr e)))⟩
      have := rset hh 9 (.int .i64 (pn.links + 1))
      rw [← hW2] at this
      rw [this]
      simp [ndC, named1, hk1]
    clear kk1 kk2 kk3 H HV hC HW hD nv1 hfW hfW0 hP heq hn hd hnW hk hf
    generalize pn.kind = kd at *
    generalize (L d).ib = ib at *
    generalize (L d).eb = eb at *
    generalize (L n).ib = nb at *
    generalize mk s = ss at *
    generalize pn.links = lk at *
    go_enter Tryz.func100, Tryz.ntmps100
    go_upto_region 1 with fail
    rw [← hV]
    clear hV
    go_region
    go_upto_region 4 with fail
    rw [← hW2]
    clear hW2
    go_wp2_with fail
    first | exact HF.out _ | (go_end0; exact HF.out _)
end Go.Proofs.YtcogkhcfpgelhaaGreat
