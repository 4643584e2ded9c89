import Derived.Test.YtkpkiajehclbhaaBkA
import Derived.Test.YtkpkiajehclbhaaBiF
namespace Go.Proofs.Ytkpkiajehclbhaa
open Go.RowKit
set_option linter.unusedVariables false
/-- How BitsBack stands while it writes: the writer, and the list of the calls that were done. -/
structure BwM (w : World) (wb : Nat) (og : Option Nat) (V n gd cd : Nat) (qs : List Opm) (wr : World) : Prop where
  p : Wr wb og V n wr
  d : OwR RO gd (.slice (some ⟨gd, 0, none⟩) qs.length cd) qs wr
  ne1 : gd ≠ wb
  ne2 : og ≠ some gd
  h1 : w.heap.size ≤ wb
  h2 : w.heap.size ≤ gd
  h3 : ∀ g, og = some g → w.heap.size ≤ g
  nw : Nw w wr
  nl : n ≤ 800000000000
  ql : qs.length ≤ 1000000000
variable {w : World} {wb : Nat} {og : Option Nat} {V n gd cd : Nat} {qs : List Opm} {wr : World}
theorem BwM.keep {W : World} (h : BwM w wb og V n gd cd qs wr) (f : Nw wr W) : BwM w wb og V n gd cd qs W :=
  ⟨h.p.nw f, h.d.nw f, h.ne1, h.ne2, h.h1, h.h2, h.h3, h.nw.trans f, h.nl, h.ql⟩
theorem BwM.go {og' : Option Nat} {V' n' : Nat} {W : World} (h : BwM w wb og V n gd cd qs wr) (hp : Wr wb og' V' n' W) (f : Fr (fun k => k = wb ∨ og = some k) wr W) (hw : Went og og' wr) (hn : n' ≤ 800000000000) : BwM w wb og' V' n' gd cd qs W := by
  have hs := h.nw.size
  refine ⟨hp, h.d.kept f (fun hx => ?_), h.ne1, hw.ne gd h.ne2 h.d.lt, h.h1, h.h2, fun g hg => ?_, Fr.then h.nw f (fun i hi => ?_), hn, h.ql⟩
  · rcases hx with e | e
    · exact h.ne1 e
    · exact h.ne2 e
  · rcases hw with rfl | ⟨g', rfl, hg'⟩
    · exact h.h3 g hg
    · injection hg with hg; subst hg; omega
  · rcases hi with rfl | e
    · exact .inr h.h1
    · exact .inr (h.h3 i e)
/-- A call as cells. -/
abbrev oc (t : Opn) (ba : Option Addr) (bc : Nat) : Array Value := #[.int .i64 t.kind, .int .i64 t.n, .int .u32 t.v, .slice ba t.b.length bc]
def Oc4 (ob : Nat) (t : Opn) (ba : Option Addr) (bc : Nat) (w : World) : Prop := w.heap[ob]? = some (.cells (oc t ba bc) 34)
theorem Oc4.cells {ob : Nat} {t : Opn} {ba : Option Addr} {bc : Nat} {w : World} (h : Oc4 ob t ba bc w) : w.cell? ⟨ob, 0, none⟩ = some (.int .i64 t.kind) ∧ w.cell? ⟨ob, 1, none⟩ = some (.int .i64 t.n) ∧ w.cell? ⟨ob, 2, none⟩ = some (.int .u32 t.v) ∧ w.cell? ⟨ob, 3, none⟩ = some (.slice ba t.b.length bc) :=
  ⟨(row_cell h 0 _ rfl).1, (row_cell h 1 _ rfl).1, (row_cell h 2 _ rfl).1, (row_cell h 3 _ rfl).1⟩
theorem Oc4.new (w : World) (t : Opn) (ba : Option Addr) (bc : Nat) : Oc4 w.heap.size t ba bc (w.alloc (.cells (oc t ba bc) 34)) := new_heap _ _
/-- The call is put into the list. -/
theorem BwM.push (h : BwM w wb og V n gd cd qs wr) (q : Opm) (hl : qs.length < 1000000000) : ∃ gd' cd' W, Hid (∀ ty, (Builtin.append_ #[23, 23] ty #[.slice (some ⟨gd, 0, none⟩) qs.length cd, .slice (some ⟨wr.heap.size, 0, none⟩) 1 1]).run Try.prog (wr.alloc (.cells (oc q.t q.a q.c) 34)) = .ok (.slice (some ⟨gd', 0, none⟩) (qs.length + 1) cd') W) ∧ BwM w wb og V n gd' cd' (qs ++ [q]) W := by
  have hN : Nw wr (wr.alloc (.cells (oc q.t q.a q.c) 34)) := (Fr.refl _ _).alloc _
  have hb := OwR.built roOk wr [q] (oc q.t q.a q.c) (by simp [flatR, RO]) (by rw [List.length_singleton]; decide)
  obtain ⟨v', g', W, k1, k2, k3, k4⟩ := owR_app roOk _ gd _ qs (h.d.nw hN) _ [q] ((hb.slr roOk).mono (fun _ h => h.elim)) (by simp [RO]; omega) (by simp; omega)
  obtain ⟨c', e, _, _⟩ := k2.form
  rw [List.length_append, List.length_singleton] at e
  subst e
  have h' := h.keep hN
  have hl1 := h.d.lt
  have hl2 := h.p.lt
  have hl3 := h.nw.size
  have hls : (wr.alloc (.cells (oc q.t q.a q.c) 34)).heap.size = wr.heap.size + 1 := by simp
  have hl4 := h.p.olt
  have hh2 := h.h2
  refine ⟨g', c', W, k1, h'.p.kept k3 (fun e => h.ne1 e.symm) (fun g hg e => h.ne2 (by rw [hg, e])), by rw [List.length_append, List.length_singleton]; exact k2, ?_, ?_, h.h1, ?_, h.h3, Fr.then h'.nw k3 (fun i hi => .inr (by omega)), h.nl, by rw [List.length_append, List.length_singleton]; omega⟩
  · rcases k4 with e | e
    · rw [e]; exact h.ne1
    · omega
  · rcases k4 with e | e
    · rw [e]; exact h.ne2
    · intro e2; have := hl4 _ e2; omega
  · rcases k4 with e | e
    · omega
    · omega
/-- What one call came to. -/
def Fin (w : World) (wb : Nat) (gd cd : Nat) (qs : List Opm) (s : Nat × Nat) (W : World) : Prop := ∃ og' V' n', (V', n') = s ∧ BwM w wb og' V' n' gd cd qs W
theorem Oc4.kept {ob : Nat} {t : Opn} {ba : Option Addr} {bc : Nat} {w w' : World} {X : Nat → Prop} (h : Oc4 ob t ba bc w) (f : Fr X w w') (hx : ¬ X ob) : Oc4 ob t ba bc w' := row_kept h f hx
/-- Put: refused, or done. -/
theorem BwM.put (h : BwM w wb og V n gd cd qs wr) (hn : n ≤ 700000000000) (t : Opn) (ht : t.v < 4294967296) (ba : Option Addr) (bc : Nat) (hk : t.kind = 0) :
    ∃ er : Nat, er = (if puts t.v t.n = true then 0 else 1) ∧ Hid (Calls Try.prog 23 #[.pointer (some ⟨wb, 0, none⟩), .int .u32 t.v, .int .i64 t.n] (wr.alloc (.cells (oc t ba bc) 34)) fun e w1 => e = .returned (.int .i64 er) ∧ w1.cell? ⟨wr.heap.size, 0, none⟩ = some (.int .i64 t.kind) ∧ w1.cell? ⟨wr.heap.size, 1, none⟩ = some (.int .i64 t.n) ∧ w1.cell? ⟨wr.heap.size, 2, none⟩ = some (.int .u32 t.v) ∧ w1.cell? ⟨wr.heap.size, 3, none⟩ = some (.slice ba t.b.length bc) ∧ Hid (if puts t.v t.n = true then Fin w wb gd cd qs (stp (V, n) t) w1 else BwM w wb og V n gd cd qs w1)) := by
  have hN : Nw wr (wr.alloc (.cells (oc t ba bc) 34)) := (Fr.refl _ _).alloc _
  have h' := h.keep hN
  have hO := Oc4.new wr t ba bc
  cases hp : puts t.v t.n with
  | false =>
    refine ⟨1, by simp, (bput_no t.v ht t.n hp wb _).mono ?_⟩
    rintro e w1 ⟨rfl, rfl⟩
    obtain ⟨c0, c1, c2, c3⟩ := hO.cells
    exact ⟨rfl, c0, c1, c2, c3, by show (if false = true then _ else _); rw [if_neg (by decide)]; exact h'⟩
  | true =>
    obtain ⟨m, hm, hm32, hv⟩ := puts_yes hp
    have hlt := h.p.lt
    have holt := h.p.olt
    refine ⟨0, by simp, ?_⟩
    show Calls _ _ _ _ _
    rw [hm]
    refine (bput_yes h'.p (by omega) t.v ht m hm32 hv).mono ?_
    rintro e w1 ⟨rfl, og', hW, hF, hG⟩
    obtain ⟨c0, c1, c2, c3⟩ := (hO.kept hF (fun hx => by
      rcases hx with e | e
      · omega
      · have := holt _ e; omega)).cells
    rw [hm] at c1
    refine ⟨rfl, c0, c1, c2, c3, ?_⟩
    show (if true = true then _ else _)
    rw [if_pos rfl]
    exact ⟨og', _, _, by rw [stp, if_pos hk, hm, Int.toNat_natCast], h'.go hW hF hG (by omega)⟩
/-- Align. -/
theorem BwM.align (h : BwM w wb og V n gd cd qs wr) (hn : n ≤ 700000000000) (t : Opn) (ba : Option Addr) (bc : Nat) (hk : t.kind = 1) :
    Hid (Calls Try.prog 25 #[.pointer (some ⟨wb, 0, none⟩)] (wr.alloc (.cells (oc t ba bc) 34)) fun e w1 => (∃ r, e = .returned r) ∧ w1.cell? ⟨wr.heap.size, 0, none⟩ = some (.int .i64 t.kind) ∧ w1.cell? ⟨wr.heap.size, 1, none⟩ = some (.int .i64 t.n) ∧ w1.cell? ⟨wr.heap.size, 2, none⟩ = some (.int .u32 t.v) ∧ w1.cell? ⟨wr.heap.size, 3, none⟩ = some (.slice ba t.b.length bc) ∧ Hid (Fin w wb gd cd qs (stp (V, n) t) w1)) := by
  have hN : Nw wr (wr.alloc (.cells (oc t ba bc) 34)) := (Fr.refl _ _).alloc _
  have h' := h.keep hN
  have hO := Oc4.new wr t ba bc
  have hlt := h.p.lt
  have hu := up8_ge n
  refine (walign_any h'.p (by omega)).mono ?_
  rintro e w1 ⟨he, hW, hF⟩
  obtain ⟨c0, c1, c2, c3⟩ := (hO.kept hF (fun e => by omega)).cells
  refine ⟨he, c0, c1, c2, c3, og, _, _, ?_, h'.go hW (hF.mono (fun i hi => .inl (.inl hi))) (.inl rfl) (by omega)⟩
  rw [stp, if_neg (by omega), if_pos hk]
/-- Add, of a copy. -/
theorem BwM.add (h : BwM w wb og V n gd cd qs wr) (hn : n ≤ 700000000000) (t : Opn) (ba : Option Addr) (bc : Nat) (hk : t.kind = 2) (hb : Old w (.slice ba t.b.length bc) t.b) (hbl : t.b.length ≤ 1000000000) :
    ∃ a2 c2 W, Hid (∀ ty, (Builtin.append_ #[22, 22] ty #[.slice (some ⟨wr.heap.size + 1, 0, none⟩) 0 0, .slice ba t.b.length bc]).run Try.prog ((wr.alloc (.cells (oc t ba bc) 34)).alloc (.cells #[] 5)) = .ok (.slice a2 t.b.length c2) W) ∧ Hid (Calls Try.prog 27 #[.pointer (some ⟨wb, 0, none⟩), .slice a2 t.b.length c2] W fun e w1 => (∃ r, e = .returned r) ∧ w1.cell? ⟨wr.heap.size, 0, none⟩ = some (.int .i64 t.kind) ∧ w1.cell? ⟨wr.heap.size, 1, none⟩ = some (.int .i64 t.n) ∧ w1.cell? ⟨wr.heap.size, 2, none⟩ = some (.int .u32 t.v) ∧ w1.cell? ⟨wr.heap.size, 3, none⟩ = some (.slice ba t.b.length bc) ∧ Hid (Fin w wb gd cd qs (stp (V, n) t) w1)) := by
  have hN : Nw wr (wr.alloc (.cells (oc t ba bc) 34)) := (Fr.refl _ _).alloc _
  have hN2 : Nw (wr.alloc (.cells (oc t ba bc) 34)) ((wr.alloc (.cells (oc t ba bc) 34)).alloc (.cells #[] 5)) := (Fr.refl _ _).alloc _
  have hs1 : (wr.alloc (.cells (oc t ba bc) 34)).heap.size = wr.heap.size + 1 := by simp
  have h2 := (h.keep hN).keep hN2
  have hO := Oc4.new wr t ba bc
  have hlt := h.p.lt
  have holt := h.p.olt
  have hu := up8_ge n
  have hE := Ow.empty (wr.alloc (.cells (oc t ba bc) 34))
  obtain ⟨v', g', W, k1, k2, k3, k4⟩ := app_any _ _ _ [] hE _ t.b ((hb.nw h2.nw).mono (fun _ h => h.elim)) (by simp; omega)
  rw [List.nil_append] at k2
  rw [hs1] at k1 k3 k4
  obtain ⟨a2, c2, e, _, _⟩ := k2.old.form
  subst e
  have hgw : g' ≠ wb := by
    rcases k4 with e | e
    · omega
    · have := hN2.size; omega
  have h3 : BwM w wb og V n gd cd qs W := by
    have hdl := h.d.lt
    refine ⟨h2.p.kept k3 (by omega) (fun g hg e => by have := holt _ hg; omega), h2.d.kept k3 (by omega), h.ne1, h.ne2, h.h1, h.h2, h.h3, Fr.then h2.nw k3 (fun i hi => .inr (by have := h.nw.size; omega)), h.nl, h.ql⟩
  have hO3 : Oc4 wr.heap.size t ba bc W := (hO.kept hN2 (fun h => h)).kept k3 (by omega)
  have hOl := hO3
  have hob : wr.heap.size < W.heap.size := (Array.getElem?_eq_some_iff.1 hO3).1
  refine ⟨a2, c2, W, k1, (wadd_any h3.p (by omega) _ t.b (.inr ⟨g', hgw, k2.slb⟩) hbl).mono ?_⟩
  rintro e w1 ⟨he, og', hW, hF, hG⟩
  obtain ⟨c0, c1, c2, c3⟩ := (hO3.kept hF (fun hx => by
      rcases hx with e | e
      · omega
      · have := holt _ e; omega)).cells
  refine ⟨he, c0, c1, c2, c3, og', _, _, ?_, h3.go hW hF hG (by omega)⟩
  rw [stp, if_neg (by omega), if_neg (by omega), if_pos hk]
end Go.Proofs.Ytkpkiajehclbhaa
