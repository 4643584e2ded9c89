import Derived.Test.YtkpkiajehclbhaaCpB
namespace Go.Proofs.Ytkpkiajehclbhaa
open Go.RowKit
set_option linter.unusedVariables false
/-- How BitsPrefix stands while it writes: es are the symbols that were written, ds those in the list. -/
structure PxM (w : World) (ls : List Nat) (wb : Nat) (og : Option Nat) (gd cd : Nat) (es ds : List Nat) (wr : World) : Prop where
  p : Wr wb og (pw ls es) (pn ls es) wr
  d : OwR RI gd (.slice (some ⟨gd, 0, none⟩) ds.length cd) (toI ds) wr
  ne1 : gd ≠ wb
  ne2 : og ≠ some gd
  h1 : w.heap.size ≤ wb
  h2 : w.heap.size ≤ gd
  h3 : ∀ g, og = some g → w.heap.size ≤ g
  nw : Nw w wr
  ok : ∀ i ∈ es, i < ls.length ∧ ls.getD i 0 ≠ 0
variable {w : World} {ls : List Nat} {wb : Nat} {og : Option Nat} {gd cd : Nat} {es ds : List Nat} {wr : World}
theorem PxM.keep {V : World} (h : PxM w ls wb og gd cd es ds wr) (f : Nw wr V) : PxM w ls wb og gd cd es ds V :=
  ⟨h.p.nw f, h.d.nw f, h.ne1, h.ne2, h.h1, h.h2, h.h3, h.nw.trans f, h.ok⟩
theorem px_start (w : World) (ls : List Nat) : PxM w ls w.heap.size none (w.heap.size + 1) 0 [] [] ((w.alloc (.cells #[.slice none 0 0, .int .i64 0] 46)).alloc (.cells #[] 3)) := by
  have h1 : Nw w (w.alloc (.cells #[.slice none 0 0, .int .i64 0] 46)) := (Fr.refl _ _).alloc _
  have h2 : Nw (w.alloc (.cells #[.slice none 0 0, .int .i64 0] 46)) ((w.alloc (.cells #[.slice none 0 0, .int .i64 0] 46)).alloc (.cells #[] 3)) := (Fr.refl _ _).alloc _
  have e : (w.alloc (.cells #[.slice none 0 0, .int .i64 0] 46)).heap.size = w.heap.size + 1 := by simp
  have r1 := h2.heap (new_heap w (.cells #[.slice none 0 0, .int .i64 0] 46))
  have r2 := OwR.empty (R := RI) (w.alloc (.cells #[.slice none 0 0, .int .i64 0] 46))
  rw [e] at r2
  exact ⟨⟨⟨_, r1, by simp [Og, pn, lows]⟩, by simp, by simp [pw, pn]⟩, r2, by omega, by simp, Nat.le_refl _, by omega, by simp, h1.trans h2, by simp⟩
/-- A word is put. -/
theorem PxM.put (h : PxM w ls wb og gd cd ds ds wr) (hk : Cod ls) (hn : ds.length ≤ 17592186043904) (i : Nat) (hi : i < ls.length) (h0 : ls.getD i 0 ≠ 0) (V : World) (hV : Nw wr V) :
    Calls Try.prog 23 #[.pointer (some ⟨wb, 0, none⟩), .int .u32 (wdP ls i).1, .int .i64 (wdP ls i).2] V fun e w' => e = .returned (.int .i64 0) ∧ (∃ og', PxM w ls wb og' gd cd (ds ++ [i]) ds w') ∧ Fr (fun k => k = wb ∨ og = some k) V w' := by
  have hh := h.keep hV
  have hpn := pn_le hk ds
  have hw : (wdP ls i).2 = ls.getD i 0 := by unfold wdP; rw [if_neg h0]
  have hl := hk.each i
  have hlt := wdP_lt (ls := ls) i
  have hp15 : (2 : Nat) ^ ls.getD i 0 ≤ 2 ^ 15 := Nat.pow_le_pow_right (by decide) hl
  rw [hw]
  refine (bput_yes hh.p (by omega) (wdP ls i).1 (by omega) (ls.getD i 0) (by omega) hlt).mono ?_
  rintro e w' ⟨rfl, og', h1, h2, h3⟩
  have hs1 := hh.d.lt
  have hs2 := hh.p.lt
  have hs3 := hh.p.olt
  have hz1 := hh.h1
  have hz3 := hh.h3
  have hz4 := hh.nw.size
  refine ⟨rfl, ⟨og', ⟨by rw [pw_snoc, pn_snoc]; exact h1, hh.d.kept h2 ?_, hh.ne1, h3.ne _ hh.ne2 hs1, hh.h1, hh.h2, ?_, Fr.then hh.nw h2 (fun k hk => .inr ?_), ?_⟩⟩, h2⟩
  · rintro (e | e)
    · exact hh.ne1 e
    · exact hh.ne2 e
  · intro g hg
    rcases h3 with e | ⟨g', e, hg'⟩
    · exact hz3 g (by rw [← e]; exact hg)
    · rw [hg] at e; injection e with e; omega
  · rcases hk with e | e
    · omega
    · exact hz3 k e
  · intro j hj
    rcases List.mem_append.1 hj with hj | hj
    · exact hh.ok j hj
    · simp at hj; subst hj; exact ⟨hi, h0⟩
/-- A symbol is put into the list. -/
theorem PxM.push {i : Nat} (h : PxM w ls wb og gd cd (ds ++ [i]) ds wr) (hn : ds.length ≤ 17592186043904) :
    ∃ gd' cd' W, Hid (∀ ty, (Builtin.append_ #[54, 54] ty #[.slice (some ⟨gd, 0, none⟩) ds.length cd, .slice (some ⟨wr.heap.size, 0, none⟩) 1 1]).run Try.prog (wr.alloc (.cells #[.int .i64 (i : Nat)] 3)) = .ok (.slice (some ⟨gd', 0, none⟩) (ds.length + 1) cd') W) ∧ PxM w ls wb og gd' cd' (ds ++ [i]) (ds ++ [i]) W := by
  have hN : Nw wr (wr.alloc (.cells #[.int .i64 (i : Nat)] 3)) := (Fr.refl _ _).alloc _
  have hb := OwR.built riOk wr [(i : Int)] #[.int .i64 (i : Nat)] (by simp [flatR, RI]) (by rw [List.length_singleton]; decide)
  have h' := h.keep hN
  obtain ⟨v', g', W, k1, k2, k3, k4⟩ := owR_app riOk _ gd _ (toI ds) h'.d _ [(i : Int)] ((hb.slr riOk).mono (fun _ h => h.elim)) (by simp [RI, toI_length]; omega) (by simp [toI_length]; omega)
  have et : toI ds ++ [(i : Int)] = toI (ds ++ [i]) := by simp [toI]
  obtain ⟨c', e, _, _⟩ := k2.form
  rw [et] at k2 e
  rw [toI_length, List.length_append, List.length_singleton] at e
  subst e
  have hl1 := h.d.lt
  have hl2 := h.p.lt
  have hl3 := h.nw.size
  have hls : (wr.alloc (.cells #[.int .i64 (i : Nat)] 3)).heap.size = wr.heap.size + 1 := by simp
  have hl4 := h.p.olt
  have hh2 := h.h2
  refine ⟨g', c', W, k1, h'.p.kept k3 (fun e => h.ne1 e.symm) (fun g hg e => h.ne2 (by rw [hg, e])), by rw [List.length_append, List.length_singleton]; exact k2, ?_, ?_, h.h1, ?_, h.h3, Fr.then h'.nw k3 (fun i hi => .inr (by omega)), h.ok⟩
  · rcases k4 with e | e
    · rw [e]; exact h.ne1
    · omega
  · rcases k4 with e | e
    · rw [e]; exact h.ne2
    · intro e2; have := hl4 _ e2; omega
  · rcases k4 with e | e
    · omega
    · omega
/-- How it stands while it reads. -/
structure PxR (w : World) (ls : List Nat) (gd cd : Nat) (ds : List Nat) (K : Nat → Prop) (rb : Nat) (vb : Value) (p : Nat) (wr : World) : Prop where
  r : Rr 82 K rb vb (lows (pw ls ds) ((pn ls ds + 7) / 8)) p wr
  d : OwR RI gd (.slice (some ⟨gd, 0, none⟩) ds.length cd) (toI ds) wr
  n2 : rb ≠ gd
  h4 : w.heap.size ≤ rb
  nw : Nw w wr
  ok : ∀ i ∈ ds, i < ls.length ∧ ls.getD i 0 ≠ 0
  pl : p ≤ pn ls ds
variable {K : Nat → Prop} {rb : Nat} {vb : Value} {p : Nat}
theorem PxR.keep {V : World} (h : PxR w ls gd cd ds K rb vb p wr) (f : Nw wr V) : PxR w ls gd cd ds K rb vb p V := ⟨h.r.nw f, h.d.nw f, h.n2, h.h4, h.nw.trans f, h.ok, h.pl⟩
/-- From writing to reading. -/
theorem PxM.turn (h : PxM w ls wb og gd cd ds ds wr) (hk : Cod ls) (hn : ds.length ≤ 17592186043904) :
    Hid (Calls Try.prog 29 #[.pointer (some ⟨wb, 0, none⟩)] wr fun e w1 => ∃ x, e = .returned x ∧ Hid (Calls Try.prog 10 #[x] w1 fun e w2 => ∃ rb, e = .returned (.pointer (some ⟨rb, 0, none⟩)) ∧ Hid (∃ K, PxR w ls gd cd ds K rb x 0 w2))) := by
  have hpn := pn_le hk ds
  refine (wdone_any h.p (by omega)).mono ?_
  rintro e w1 ⟨x, rfl, hM, hN⟩
  have h1 := h.keep hN
  have hlt := h1.d.lt
  have hll := lows_length (pw ls ds) ((pn ls ds + 7) / 8)
  refine ⟨x, rfl, (newReader_any w1 (fun k => w1.heap.size ≤ k) x _ hM.old (Nat.le_refl _) (by rw [hll]; omega)).mono ?_⟩
  rintro e w2 ⟨rfl, hR, hN2⟩
  exact ⟨_, rfl, _, hR, h1.d.nw hN2, by omega, h1.nw.size, h1.nw.trans hN2, h1.ok, by omega⟩
/-- A symbol is read. -/
theorem PxR.read {J cb gw gs : Nat} {ws : List (Nat × Nat)} {ss : List Int} (h : PxR w ls gd cd ds K rb vb (pn ls (ds.take J)) wr) (hc : CodeI cb gw gs ls ws ss w) (hk : Cod ls) (i : Nat) (hi : ds[J]? = some i) :
    Hid (Calls Try.prog 37 #[.pointer (some ⟨cb, 0, none⟩), .pointer (some ⟨rb, 0, none⟩)] wr fun e w1 => e = .returned (.tuple #[.int .i64 (i : Nat), .int .i64 0]) ∧ w1.cell? ⟨gd, J, none⟩ = some (.int .i64 (i : Nat)) ∧ Hid (PxR w ls gd cd ds K rb vb (pn ls (ds.take (J + 1))) w1)) := by
  have hll := lows_length (pw ls ds) ((pn ls ds + 7) / 8)
  have hle : Go.Proofs.Ytkpkiajehclbhaa.le (lows (pw ls ds) ((pn ls ds + 7) / 8)) = pw ls ds := lows_full _ _ (pw_lt ds)
  obtain ⟨q1, q2⟩ := h.ok i (List.mem_of_getElem? hi)
  have hh := hits_at hk ds J i hi q1 q2
  obtain ⟨z1, z2, z3⟩ := hc.c.lt
  have hr4 := h.h4
  have e1 : pn ls (ds.take (J + 1)) = pn ls (ds.take J) + ls.getD i 0 := by rw [take_snoc ds J i hi, pn_snoc]
  have e2 : pn ls (ds.take (J + 1)) ≤ pn ls ds := by have := pn_take (ls := ls) ds (J + 1); omega
  refine (read_any (hc.nw h.nw) hk h.r (by rw [hll]; have := h.pl; omega) (by omega) (by omega) (by omega)).mono ?_
  intro e w1 hA
  unfold ReadA at hA
  rw [hle] at hA
  rcases hA with ⟨j, a1, a2, rfl, a4, a5⟩ | ⟨j, a1, a2, rfl, a4⟩ | ⟨a1, rfl, a3⟩
  · obtain rfl := hk.hits_uniq a1 hh
    have hd := h.d.kept a5 (fun e => h.n2 e.symm)
    have hcell := (hd.cell riOk J 0 (j : Int) (.int .i64 (j : Nat)) (by rw [toI, List.getElem?_map, hi]; rfl) rfl).1
    rw [show J * RI.k + 0 = J by simp [RI]] at hcell
    refine ⟨rfl, hcell, by rw [e1]; exact a4, hd, h.n2, h.h4, Fr.then h.nw a5 (fun k hk => .inr (by omega)), h.ok, e2⟩
  · obtain rfl := hk.hits_uniq a1 hh
    rw [hll] at a2
    omega
  · exact absurd hh (a1.none hk i)
theorem PxR.left (h : PxR w ls gd cd ds K rb vb p wr) (hp : p = pn ls ds) : Hid (Calls Try.prog 20 #[.pointer (some ⟨rb, 0, none⟩)] wr fun e w1 => ∃ q : Nat, q < 8 ∧ e = .returned (.int .i64 q) ∧ Hid (Nw w w1)) := by
  have hll := lows_length (pw ls ds) ((pn ls ds + 7) / 8)
  refine (left_any h.r (by rw [hll]; omega)).mono ?_
  rintro e w1 ⟨rfl, hN⟩
  exact ⟨_, by rw [hll]; omega, rfl, h.nw.trans hN⟩
/-- A word in a variable. -/
theorem box_word (W : World) (a b : Value) : (W.alloc (.cells #[a, b] 62)).heap[W.heap.size]? = some (.cells #[a, b] 62) ∧ Nw W (W.alloc (.cells #[a, b] 62)) := ⟨new_heap _ _, (Fr.refl _ _).alloc _⟩
end Go.Proofs.Ytkpkiajehclbhaa
