import Derived.Test.YtkpkiajehclbhaaBkB
namespace Go.Proofs.Ytkpkiajehclbhaa
open Go.RowKit
set_option linter.unusedVariables false
variable {w : World} {wb : Nat} {og : Option Nat} {V n gd cd : Nat} {qs : List Opm} {wr : World}
theorem at_place (hrun : runT (qs.map Opm.t) = (V, n)) (hok : ∀ q ∈ qs, okT q.t) (I : Nat) (q : Opm) (hq : qs[I]? = some q) :
    runT ((qs.take (I + 1)).map Opm.t) = stp (runT ((qs.take I).map Opm.t)) q.t ∧ (runT ((qs.take I).map Opm.t)).1 < 2 ^ (runT ((qs.take I).map Opm.t)).2 ∧ (stp (runT ((qs.take I).map Opm.t)) q.t).2 ≤ n ∧ V % 2 ^ (stp (runT ((qs.take I).map Opm.t)) q.t).2 = (stp (runT ((qs.take I).map Opm.t)) q.t).1 := by
  have e1 : (qs.take (I + 1)).map Opm.t = (qs.take I).map Opm.t ++ [q.t] := by rw [List.take_add_one, hq]; simp
  have e2 : qs.map Opm.t = (qs.take (I + 1)).map Opm.t ++ (qs.drop (I + 1)).map Opm.t := by rw [← List.map_append, List.take_append_drop]
  have h1 : runT ((qs.take (I + 1)).map Opm.t) = stp (runT ((qs.take I).map Opm.t)) q.t := by rw [e1, runT_snoc]
  have hmem : ∀ t ∈ qs.map Opm.t, okT t := fun t ht => by
    obtain ⟨x, hx, rfl⟩ := List.mem_map.1 ht
    exact hok x hx
  have h2 := runT_pre ((qs.take (I + 1)).map Opm.t) ((qs.drop (I + 1)).map Opm.t) (by rw [← e2]; exact hmem)
  rw [← e2, hrun, h1] at h2
  refine ⟨h1, runT_lt _ (fun t ht => hmem t ?_), h2.1, h2.2⟩
  obtain ⟨x, hx, rfl⟩ := List.mem_map.1 ht
  exact List.mem_map.2 ⟨x, List.mem_of_mem_take hx, rfl⟩
/-- How BitsBack stands while it reads. -/
structure BrI (w : World) (wb : Nat) (og : Option Nat) (V n gd cd : Nat) (qs : List Opm) (K : Nat → Prop) (rb : Nat) (vb : Value) (p : Nat) (wr : World) : Prop where
  m : BwM w wb og V n gd cd qs wr
  r : Rr 82 K rb vb (lows V ((n + 7) / 8)) p wr
  n1 : rb ≠ wb
  n2 : rb ≠ gd
  n3 : og ≠ some rb
  h4 : w.heap.size ≤ rb
  run : runT (qs.map Opm.t) = (V, n)
  ok : ∀ q ∈ qs, okT q.t ∧ q.t.v < 4294967296 ∧ q.t.n < 9223372036854775808 ∧ Old w (.slice q.a q.t.b.length q.c) q.t.b ∧ q.t.b.length ≤ 1000000000
  pl : p ≤ n
variable {K : Nat → Prop} {rb : Nat} {vb : Value} {p : Nat}
theorem BrI.keep {W : World} (h : BrI w wb og V n gd cd qs K rb vb p wr) (f : Nw wr W) : BrI w wb og V n gd cd qs K rb vb p W :=
  ⟨h.m.keep f, h.r.nw f, h.n1, h.n2, h.n3, h.h4, h.run, h.ok, h.pl⟩
theorem BrI.go {p' : Nat} {W : World} (h : BrI w wb og V n gd cd qs K rb vb p wr) (hr : Rr 82 K rb vb (lows V ((n + 7) / 8)) p' W) (f : Fr (fun k => k = rb) wr W) (hp : p' ≤ n) : BrI w wb og V n gd cd qs K rb vb p' W := by
  have := h.h4
  exact ⟨⟨h.m.p.kept f (fun e => h.n1 e.symm) (fun g hg e => h.n3 (by rw [hg, e])), h.m.d.kept f (fun e => h.n2 e.symm), h.m.ne1, h.m.ne2, h.m.h1, h.m.h2, h.m.h3, Fr.then h.m.nw f (fun i hi => .inr (by omega)), h.m.nl, h.m.ql⟩, hr, h.n1, h.n2, h.n3, h.h4, h.run, h.ok, hp⟩
theorem BrI.le (h : BrI w wb og V n gd cd qs K rb vb p wr) : Go.Proofs.Ytkpkiajehclbhaa.le (lows V ((n + 7) / 8)) = V := lows_full V n h.m.p.vl
/-- The cells of one call. -/
theorem BrI.at (h : BrI w wb og V n gd cd qs K rb vb p wr) (I : Nat) (hI : I < qs.length) : ∃ q, qs[I]? = some q ∧ q ∈ qs ∧ wr.cell? ⟨gd, I * 4, none⟩ = some (.int .i64 q.t.kind) ∧ wr.cell? ⟨gd, I * 4 + 1, none⟩ = some (.int .i64 q.t.n) ∧ wr.cell? ⟨gd, I * 4 + 2, none⟩ = some (.int .u32 q.t.v) ∧ wr.cell? ⟨gd, I * 4 + 3, none⟩ = some (.slice q.a q.t.b.length q.c) := by
  refine ⟨qs[I], List.getElem?_eq_getElem hI, List.getElem_mem _, ?_, ?_, ?_, ?_⟩
  · exact (h.m.d.cell roOk I 0 _ _ (List.getElem?_eq_getElem hI) rfl).1
  · exact (h.m.d.cell roOk I 1 _ _ (List.getElem?_eq_getElem hI) rfl).1
  · exact (h.m.d.cell roOk I 2 _ _ (List.getElem?_eq_getElem hI) rfl).1
  · exact (h.m.d.cell roOk I 3 _ _ (List.getElem?_eq_getElem hI) rfl).1
/-- Take tells the number that was put. -/
theorem BrI.take (h : BrI w wb og V n gd cd qs K rb vb p wr) (I : Nat) (q : Opm) (hq : qs[I]? = some q) (hp : p = (runT ((qs.take I).map Opm.t)).2) (hk : q.t.kind = 0) (ba : Option Addr) (bc : Nat) :
    Hid (Calls Try.prog 12 #[.pointer (some ⟨rb, 0, none⟩), .int .i64 q.t.n] (wr.alloc (.cells (oc q.t ba bc) 34)) fun e w1 => e = .returned (.tuple #[.int .u32 q.t.v, .int .i64 0]) ∧ w1.cell? ⟨wr.heap.size, 0, none⟩ = some (.int .i64 q.t.kind) ∧ w1.cell? ⟨wr.heap.size, 2, none⟩ = some (.int .u32 q.t.v) ∧ Hid (∃ p', p' = (runT ((qs.take (I + 1)).map Opm.t)).2 ∧ BrI w wb og V n gd cd qs K rb vb p' w1)) := by
  obtain ⟨s1, s2, s3, s4⟩ := at_place h.run (fun q hq => (h.ok q hq).1) I q hq
  have hmem : q ∈ qs := List.mem_of_getElem? hq
  obtain ⟨m, hm, hm32, hv⟩ := puts_yes ((h.ok q hmem).1 hk)
  have hN : Nw wr (wr.alloc (.cells (oc q.t ba bc) 34)) := (Fr.refl _ _).alloc _
  have h' := h.keep hN
  have hO := Oc4.new wr q.t ba bc
  have hlt := h.r.lt
  have hll := lows_length V ((n + 7) / 8)
  have hnl := h.m.nl
  rw [stp, if_pos hk, hm, Int.toNat_natCast] at s1 s3 s4
  simp only at s3 s4
  rw [← hp] at s1 s2 s3 s4
  have e : takeF (8 * (lows V ((n + 7) / 8)).length) (Go.Proofs.Ytkpkiajehclbhaa.le (lows V ((n + 7) / 8))) p q.t.n = (q.t.v, 0, p + m) := by
    rw [h.le, hll, hm, takeF, if_neg (by omega), if_neg (by omega), Int.toNat_natCast]
    congr 1
    exact read_num V p m q.t.v _ s4 s2
  have hpl := h.pl
  refine (btake_any h'.r (by rw [hll]; omega) q.t.n).mono ?_
  rintro e1 w1 ⟨rfl, hr, hf⟩
  rw [e] at hr ⊢
  obtain ⟨c0, c1, c2, c3⟩ := (hO.kept hf (fun e => by omega)).cells
  refine ⟨rfl, c0, c2, p + m, by rw [s1], h'.go hr hf (by omega)⟩
/-- Align. -/
theorem BrI.align (h : BrI w wb og V n gd cd qs K rb vb p wr) (I : Nat) (q : Opm) (hq : qs[I]? = some q) (hp : p = (runT ((qs.take I).map Opm.t)).2) (hk : q.t.kind = 1) (ba : Option Addr) (bc : Nat) :
    Hid (Calls Try.prog 14 #[.pointer (some ⟨rb, 0, none⟩)] (wr.alloc (.cells (oc q.t ba bc) 34)) fun e w1 => (∃ r, e = .returned r) ∧ w1.cell? ⟨wr.heap.size, 0, none⟩ = some (.int .i64 q.t.kind) ∧ Hid (∃ p', p' = (runT ((qs.take (I + 1)).map Opm.t)).2 ∧ BrI w wb og V n gd cd qs K rb vb p' w1)) := by
  obtain ⟨s1, s2, s3, s4⟩ := at_place h.run (fun q hq => (h.ok q hq).1) I q hq
  have hN : Nw wr (wr.alloc (.cells (oc q.t ba bc) 34)) := (Fr.refl _ _).alloc _
  have h' := h.keep hN
  have hO := Oc4.new wr q.t ba bc
  have hlt := h.r.lt
  have hll := lows_length V ((n + 7) / 8)
  rw [stp, if_neg (by omega), if_pos hk] at s1 s3 s4
  simp only at s3 s4
  rw [← hp] at s1 s2 s3 s4
  have hpl := h.pl
  refine (balign_any h'.r (by rw [hll]; omega)).mono ?_
  rintro e1 w1 ⟨he, hr, hf⟩
  obtain ⟨c0, c1, c2, c3⟩ := (hO.kept hf (fun e => by omega)).cells
  exact ⟨he, c0, up8 p, by rw [s1], h'.go hr hf s3⟩
/-- Bytes tells the bytes that were added. -/
theorem BrI.bytes (h : BrI w wb og V n gd cd qs K rb vb p wr) (I : Nat) (q : Opm) (hq : qs[I]? = some q) (hp : p = (runT ((qs.take I).map Opm.t)).2) (hk : q.t.kind = 2) :
    Hid (Calls Try.prog 16 #[.pointer (some ⟨rb, 0, none⟩), .int .i64 q.t.b.length] (wr.alloc (.cells (oc q.t q.a q.c) 34)) fun e w1 => ∃ x, e = .returned (.tuple #[x, .int .i64 0]) ∧ w1.cell? ⟨wr.heap.size, 3, none⟩ = some (.slice q.a q.t.b.length q.c) ∧ Hid (Calls Try.prog 18 #[x, .slice q.a q.t.b.length q.c] w1 fun e w2 => e = .returned (.bool true) ∧ Hid (∃ p', p' = (runT ((qs.take (I + 1)).map Opm.t)).2 ∧ BrI w wb og V n gd cd qs K rb vb p' w2))) := by
  obtain ⟨s1, s2, s3, s4⟩ := at_place h.run (fun q hq => (h.ok q hq).1) I q hq
  have hmem : q ∈ qs := List.mem_of_getElem? hq
  obtain ⟨_, _, _, hold, hbl⟩ := h.ok q hmem
  have hN : Nw wr (wr.alloc (.cells (oc q.t q.a q.c) 34)) := (Fr.refl _ _).alloc _
  have h' := h.keep hN
  have hO := Oc4.new wr q.t q.a q.c
  have hlt := h.r.lt
  have hll := lows_length V ((n + 7) / 8)
  rw [stp, if_neg (by omega), if_neg (by omega), if_pos hk] at s1 s3 s4
  simp only at s3 s4
  rw [← hp] at s1 s2 s3 s4
  have hpl := h.pl
  obtain ⟨u1, u2, u3, u4⟩ := up8_ge p
  have e : bytesF (8 * (lows V ((n + 7) / 8)).length) (Go.Proofs.Ytkpkiajehclbhaa.le (lows V ((n + 7) / 8))) p (q.t.b.length : Int) = (q.t.b, 0, up8 p + 8 * q.t.b.length) := by
    rw [h.le, hll, bytesF, if_neg (by omega), if_neg (by omega), Int.toNat_natCast]
    congr 1
    apply le_inj
    · rw [lows_length]
    · rw [le_lows, pow256]
      exact read_num V (up8 p) (8 * q.t.b.length) _ _ s4 (lt_up s2 u1)
  refine (bbytes_any h'.r (by rw [hll]; omega) (q.t.b.length : Int) (by omega)).mono ?_
  rintro e1 w1 ⟨x, rfl, hM, hr, hf⟩
  rw [e] at hM hr ⊢
  obtain ⟨c0, c1, c2, c3⟩ := (hO.kept hf (fun e => by omega)).cells
  have h1 := h'.go hr hf s3
  refine ⟨x, rfl, c3, (same_any w1 x _ _ _ (hM.sl.mono (fun _ h => h.elim)) ((hold.nw h1.m.nw).mono (fun _ h => h.elim)) (by simp only; omega) (by omega)).mono ?_⟩
  rintro e2 w2 ⟨rfl, hN2⟩
  exact ⟨by simp, up8 p + 8 * q.t.b.length, by rw [s1], h1.keep hN2⟩
/-- Another kind is none. -/
theorem BrI.other (h : BrI w wb og V n gd cd qs K rb vb p wr) (I : Nat) (q : Opm) (hq : qs[I]? = some q) (hp : p = (runT ((qs.take I).map Opm.t)).2) (h0 : ¬ q.t.kind = 0) (h1 : ¬ q.t.kind = 1) (h2 : ¬ q.t.kind = 2) : p = (runT ((qs.take (I + 1)).map Opm.t)).2 := by
  obtain ⟨s1, s2, s3, s4⟩ := at_place h.run (fun q hq => (h.ok q hq).1) I q hq
  rw [s1, stp, if_neg h0, if_neg h1, if_neg h2]; exact hp
/-- At the end: fewer than eight bits are left, and writing goes on. -/
theorem BrI.last (h : BrI w wb og V n gd cd qs K rb vb p wr) (hp : p = (runT ((qs.take qs.length).map Opm.t)).2) (hn7 : n ≤ 700000000000) : ∃ q : Nat, q < 8 ∧ Hid (Calls Try.prog 20 #[.pointer (some ⟨rb, 0, none⟩)] wr fun e w1 => e = .returned (.int .i64 q) ∧ Hid (Calls Try.prog 23 #[.pointer (some ⟨wb, 0, none⟩), .int .u32 1, .int .i64 1] w1 fun e w2 => e = .returned (.int .i64 0) ∧ Hid (Calls Try.prog 31 #[.pointer (some ⟨wb, 0, none⟩)] w2 fun e w3 => e = .returned (.int .i64 ((n + 1 : Nat) : Int)) ∧ Hid (Nw w w3)))) := by
  rw [List.take_length, h.run] at hp
  have hll := lows_length V ((n + 7) / 8)
  have hnl := h.m.nl
  simp only at hp
  refine ⟨8 * ((n + 7) / 8) - n, by omega, ?_⟩
  have hl := left_any h.r (by rw [hll]; omega)
  rw [hll, hp] at hl
  refine hl.mono ?_
  rintro e w1 ⟨rfl, hN⟩
  have h1 := h.keep hN
  refine ⟨rfl, (bput_yes h1.m.p (by omega) 1 (by decide) 1 (by decide) (by decide)).mono ?_⟩
  rintro e w2 ⟨rfl, og', hW, hF, hG⟩
  have h2 := h1.m.go hW hF hG (by omega)
  refine ⟨rfl, (wlen_any hW).mono ?_⟩
  rintro e w3 ⟨rfl, rfl⟩
  exact ⟨rfl, h2.nw⟩
/-- From writing to reading. -/
theorem BwM.turn (h : BwM w wb og V n gd cd qs wr) (hrun : runT (qs.map Opm.t) = (V, n)) (hok : ∀ q ∈ qs, okT q.t ∧ q.t.v < 4294967296 ∧ q.t.n < 9223372036854775808 ∧ Old w (.slice q.a q.t.b.length q.c) q.t.b ∧ q.t.b.length ≤ 1000000000) :
    Hid (Calls Try.prog 29 #[.pointer (some ⟨wb, 0, none⟩)] wr fun e w1 => ∃ x, e = .returned x ∧ Hid (Calls Try.prog 10 #[x] w1 fun e w2 => ∃ rb, e = .returned (.pointer (some ⟨rb, 0, none⟩)) ∧ Hid (∃ K, BrI w wb og V n gd cd qs K rb x 0 w2))) := by
  have hnl := h.nl
  refine (wdone_any h.p (by omega)).mono ?_
  rintro e w1 ⟨x, rfl, hM, hN⟩
  have h1 := h.keep hN
  have hlt := h1.d.lt
  have hlp := h1.p.lt
  have holt := h1.p.olt
  have hll := lows_length V ((n + 7) / 8)
  refine ⟨x, rfl, (newReader_any w1 (fun k => w1.heap.size ≤ k) x _ hM.old (Nat.le_refl _) (by rw [hll]; omega)).mono ?_⟩
  rintro e w2 ⟨rfl, hR, hN2⟩
  exact ⟨_, rfl, _, h1.keep hN2, hR, by omega, by omega, fun e => by have := holt _ e; omega, h1.nw.size, hrun, hok, by omega⟩
end Go.Proofs.Ytkpkiajehclbhaa
