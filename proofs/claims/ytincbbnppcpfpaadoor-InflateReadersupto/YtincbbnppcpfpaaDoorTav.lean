import Derived.Test.YtincbbnppcpfpaaDoorTau
namespace Go.Proofs.YtincbbnppcpfpaaDoor
open Go.RowKit
set_option linter.unusedVariables false
variable {sb rb : Nat} {K : Nat → Prop} {rv : Value} {v : Value} {b : List By} {p : Nat} {skip left : Int} {most told : Nat} {m : Mm} {s : Sx} {w : World}
/-- A cell of the stream's own is set: what it stands for. -/
theorem SmI.set (h : SmI sb K rv skip left most told m s w) (j : Nat) (u : Value) (rv' : Value) (skip' left' : Int) (m' : Mm) (s' : Sx) (hr : (srow rv skip left most m s).setIfInBounds j u = srow rv' skip' left' most m' s')
    (e1 : m'.vw = m.vw) (e2 : m'.vp = m.vp) (e3 : m'.ow = m.ow) (e4 : m'.op = m.op) (e5 : m'.wl = m.wl) (e6 : s'.out = s.out) (e7 : s'.md ≠ 0 → m'.l = s'.lst) (e8 : s'.md = 2 → CodV K m'.us s'.la w ∧ CodV K m'.ud s'.lb w) (e9 : m'.fx = true → CodV K m'.us fixA w ∧ CodV K m'.ud fixB w) (e10 : ∃ a, m'.us = .pointer a) (e11 : ∃ a, m'.ud = .pointer a) :
    SmI sb K rv' skip' left' most told m' s' (w.setCell ⟨sb, j, none⟩ u) ∧ Fr (fun k => k = sb) w (w.setCell ⟨sb, j, none⟩ u) := by
  have f : Fr (fun k => k = sb) w (w.setCell ⟨sb, j, none⟩ u) := (Fr.refl _ _).setCell _ _ (.inl rfl)
  have hk : ∀ k, K k → ¬ k = sb := fun k hk e => h.ks (by rw [← e]; exact hk)
  refine ⟨⟨by rw [row_set h.row j u, hr], h.ks, fun k hk => Nat.lt_of_lt_of_le (h.lt k hk) f.size, ?_, ?_, ?_, ?_, ?_, e7, fun e => ⟨(e8 e).1.kept f hk, (e8 e).2.kept f hk⟩, fun e => ⟨(e9 e).1.kept f hk, (e9 e).2.kept f hk⟩, e10, e11, by rw [e6]; exact h.ol, h.ml, by rw [e6]; exact h.td⟩, f⟩
  · rw [e1, e3, e5]; exact h.win.kept f (fun g hg e => (h.nw g hg).2 e)
  · rw [e5, e6]; exact h.wi
  · rw [e2, e4, e6]; exact h.pl.kept f (fun g hg e => (h.np g hg).2.1 e)
  · rw [e3]; exact h.nw
  · rw [e3, e4]; exact h.np
theorem StI.sm' {m' : Mm} {s' : Sx} {skip' left' : Int} {w' : World} (h : StI sb rb K v b p skip left most told m s w) (hs : SmI sb K (.pointer (some ⟨rb, 0, none⟩)) skip' left' most told m' s' w') (f : Fr (fun k => k = sb) w w') (e3 : m'.ow = m.ow) (e4 : m'.op = m.op) : StI sb rb K v b p skip' left' most told m' s' w' :=
  ⟨hs, h.rr.kept f (fun e => h.re e) (fun g hg => by rw [hg]; exact h.sm.ks), h.re, by rw [e3]; exact h.rw, by rw [e4]; exact h.rp, h.bl⟩
theorem StI.frs {w' : World} (h : StI sb rb K v b p skip left most told m s w) (f : Fr (fun k => k = sb) w w') : Fr (fun k => ¬ K k) w w' := f.mono (fun i hi => .inl (by rw [hi]; exact h.sm.ks))
theorem alignR_bt (b : List By) (p : Nat) (hp : p ≤ 8 * b.length) : alignR (bt b p) = .ok ((), bt b (up8 p)) ∧ up8 p ≤ 8 * b.length := by
  have e : (bt b p).n % 8 + p = up8 p := by rw [bt_n]; unfold up8; omega
  unfold alignR
  rw [bt_rest, Nat.add_comm, e]
  exact ⟨rfl, by unfold up8; omega⟩
/-- The reader has turned somehow. -/
theorem StI.smr {w' : World} (h : StI sb rb K v b p skip left most told m s w) (f : Fr (fun k => k = rb) w w') : SmI sb K (.pointer (some ⟨rb, 0, none⟩)) skip left most told m s w' :=
  h.sm.keep f (fun e => h.re e.symm) (fun k hk e => h.kr (by rw [← e]; exact hk)) (fun g hg e => h.rw (by rw [hg, e])) (fun g hg e => h.rp (by rw [hg, e]))
/-- A number is read: the stream then. -/
def Rsn (sb rb : Nat) (K : Nat → Prop) (v : Value) (b : List By) (skip left : Int) (most told : Nat) (m : Mm) (s : Sx) (w : World) (r : Rz (Nat × Bt)) (e : Ending) (w' : World) : Prop :=
  (∃ y, e = gv y ∧ Hid (r = .bad y ∧ SmI sb K (.pointer (some ⟨rb, 0, none⟩)) skip left most told m s w' ∧ Fr (fun k => ¬ K k) w w')) ∨ (∃ x : Nat, e = .returned (.int .i64 x) ∧ Hid (∃ p', r = .ok (x, bt b p') ∧ StI sb rb K v b p' skip left most told m s w' ∧ Fr (fun k => ¬ K k) w w'))
theorem Ri.st {r : Rz (Nat × Bt)} {e : Ending} {w' : World} (h : StI sb rb K v b p skip left most told m s w) (hR : Ri sb rb (fun k => ¬ K k) v b w r e w') : Rsn sb rb K v b skip left most told m s w r e w' := by
  rcases hR with ⟨y, q1, q2, q3⟩ | ⟨x, p', q1, q2, q3, q4⟩
  · exact .inl ⟨y, q2, q1, h.smr q3, h.frr q3⟩
  · exact .inr ⟨x, q2, p', q1, h.go q3 q4, h.frr q4⟩
theorem num_st (h : StI sb rb K v b p skip left most told m s w) (n : Nat) (hn : n ≤ 32) (z : Int) (hz : z = n) : Calls Tryd.prog 60 #[.pointer (some ⟨sb, 0, none⟩), .int .i64 z] w (Rsn sb rb K v b skip left most told m s w (takeR n (bt b p))) :=
  (jnumber_any h.lt n hn z hz).mono (fun e w' hh => Ri.st h hh)
/-- What a step answers: the stream then, or the error. -/
def Ps (sb rb : Nat) (K : Nat → Prop) (v : Value) (b : List By) (skip left : Int) (most told : Nat) (m : Mm) (s : Sx) (w : World) (r : Rz (Sx × Bt)) (e : Ending) (w' : World) : Prop :=
  (∃ y, r = .bad y ∧ e = gv y ∧ (∃ l', SmI sb K (.pointer (some ⟨rb, 0, none⟩)) skip left most told { m with l := l' } s w') ∧ Fr (fun k => ¬ K k) w w') ∨
  (∃ s' p' m' K' x, r = .ok (s', bt b p') ∧ e = .returned x ∧ StI sb rb K' v b p' skip left most told m' s' w' ∧ (∀ k, K k → K' k) ∧ (∀ k, K' k → K k ∨ w.heap.size ≤ k) ∧ Fr (fun k => ¬ K k) w w')
set_option maxHeartbeats 8000000 in
theorem endBlock_any (h : StI sb rb K v b p skip left most told m s w) (hl : m.l = s.lst) :
    Calls Tryd.prog 67 #[.pointer (some ⟨sb, 0, none⟩)] w fun e w' => (∃ r, e = .returned r) ∧ (∃ s' p' m', endB s (bt b p) = .ok (s', bt b p') ∧ StI sb rb K v b p' skip left most told m' s' w') ∧ Fr (fun k => ¬ K k) w w' := by
  obtain ⟨P, hP⟩ : ∃ P : Ending → World → Prop, P = fun e w' => (∃ r, e = .returned r) ∧ (∃ s' p' m', endB s (bt b p) = .ok (s', bt b p') ∧ StI sb rb K v b p' skip left most told m' s' w') ∧ Fr (fun k => ¬ K k) w w' := ⟨_, rfl⟩
  rw [← hP]
  have c7 := sc7 h.sm.row
  obtain ⟨q1, q2⟩ := h.sm.set 7 (.int .i64 0) (.pointer (some ⟨rb, 0, none⟩)) skip left m { s with md := 0 } rfl rfl rfl rfl rfl rfl rfl (fun e => absurd rfl e) (fun e => by cases e) h.sm.cf h.sm.pu h.sm.pd
  have h1 := h.sm' q1 q2 rfl rfl
  have fr1 := h.frs q2
  obtain ⟨W1, hW1⟩ : ∃ W1, w.setCell ⟨sb, 7, none⟩ (.int .i64 0) = W1 := ⟨_, rfl⟩
  rw [hW1] at h1 fr1
  have c8 := sc8 h1.sm.row
  have c0 := sc0 h1.sm.row
  cases hs : s.lst with
  | false =>
    have HF : Hid (∀ r, P (.returned r) W1) := fun r => by
      rw [hP]
      refine ⟨⟨_, rfl⟩, ⟨{ s with md := 0 }, p, m, ?_, h1⟩, fr1⟩
      unfold endB; rw [if_neg (by rw [hs]; decide)]; rfl
    rw [hl, hs] at c8
    obtain ⟨c80, c81⟩ := c8
    obtain ⟨c70, c71⟩ := c7
    clear hP h h1 q1 q2 fr1 c0
    go_enter Tryd.func67, Tryd.ntmps67
    go_wp2_with fail
    go_end0
    exact HF.out _
  | true =>
    have HA : Hid (Calls Tryd.prog 75 #[.pointer (some ⟨rb, 0, none⟩)] W1 fun e w2 => (∃ r, e = .returned r) ∧ w2.cell? ⟨sb, 7, none⟩ = some (.int .i64 0) ∧ w2.frozen? ⟨sb, 7, none⟩ = false ∧ Hid (∀ r, P (.returned r) (w2.setCell ⟨sb, 7, none⟩ (.int .i64 3)))) := (balign_any h1.rr h1.bl).mono (fun e w2 ⟨a1, a2, a3⟩ => by
      obtain ⟨z1, z2⟩ := alignR_bt b p h.bl
      have h2 := h1.go (h1.lt.go a2 a3 z2) a3
      have c7 := sc7 h2.sm.row
      refine ⟨a1, c7.1, c7.2, fun r => ?_⟩
      obtain ⟨q1, q2⟩ := h2.sm.set 7 (.int .i64 3) (.pointer (some ⟨rb, 0, none⟩)) skip left m { s with md := 3 } rfl rfl rfl rfl rfl rfl rfl (fun _ => hl) (fun e => by cases e) h2.sm.cf h2.sm.pu h2.sm.pd
      have h3 := h2.sm' q1 q2 rfl rfl
      rw [hP]
      refine ⟨⟨_, rfl⟩, ⟨{ s with md := 3 }, up8 p, m, ?_, h3⟩, (fr1.trans (h1.frr a3)).trans (h2.frs q2)⟩
      unfold endB; rw [if_pos hs, bindR_eq z1]; rfl)
    rw [hl, hs] at c8
    obtain ⟨c80, c81⟩ := c8
    obtain ⟨c70, c71⟩ := c7
    obtain ⟨c00, c01⟩ := c0
    clear hP h h1 q1 q2 fr1
    go_enter Tryd.func67, Tryd.ntmps67
    go_wp2_with (first | (go_at_call 75; (with_reducible refine HA.out.mono ?_); rintro e w2 ⟨⟨r, rfl⟩, x0, x1, HF⟩))
    go_end0
    exact HF.out _
end Go.Proofs.YtincbbnppcpfpaaDoor

namespace Go.Proofs.YtincbbnppcpfpaaDoor
open Go.RowKit
set_option linter.unusedVariables false
variable {sb rb : Nat} {K : Nat → Prop} {rv : Value} {v : Value} {b : List By} {p : Nat} {skip left : Int} {most told : Nat} {m : Mm} {s : Sx} {w : World}
theorem xor_full (n : Nat) (h : n < 65536) : bits .xor .i64 (n : Int) 65535 = ((65535 - n : Nat) : Int) := by
  have e : n ^^^ 65535 = 65535 - n := by
    have h1 : (BitVec.ofNat 16 n ^^^ BitVec.allOnes 16).toNat = n ^^^ 65535 := by
      rw [BitVec.toNat_xor, BitVec.toNat_ofNat, BitVec.toNat_allOnes, Nat.mod_eq_of_lt h]
    have h2 : (BitVec.ofNat 16 n ^^^ BitVec.allOnes 16).toNat = 65535 - n := by
      rw [BitVec.xor_allOnes, BitVec.toNat_not, BitVec.toNat_ofNat, Nat.mod_eq_of_lt h]
    omega
  show IntKind.i64.wrap ((BitVec.ofInt 64 (n : Int) ^^^ BitVec.ofInt 64 65535).toNat : Int) = _
  have h3 : (BitVec.ofInt 64 65535).toNat = 65535 := by decide
  rw [BitVec.toNat_xor, ofInt_u64 n (by omega), h3, e, IntKind.wrap_i64]
  omega
theorem need_no (n size : Nat) (h3 : w.cell? ⟨sb, 3, none⟩ = some (.int .i64 most)) (h4 : w.cell? ⟨sb, 4, none⟩ = some (.int .i64 size)) (hm : most ≤ 4194304) (hs : size ≤ most) (hn : n ≤ 4294967296) (hlt : most - size < n) (z : Int) (hz : z = n) :
    Calls Tryd.prog 69 #[.pointer (some ⟨sb, 0, none⟩), .int .i64 z] w fun e w' => e = gv 32 ∧ Hid (Nw w w') := (need_any n most size h3 h4 hm hs hn z hz).mono (fun e w' ⟨h1, h2⟩ => by rw [if_pos hlt] at h1; exact ⟨h1, h2⟩)
theorem need_yes (n size : Nat) (h3 : w.cell? ⟨sb, 3, none⟩ = some (.int .i64 most)) (h4 : w.cell? ⟨sb, 4, none⟩ = some (.int .i64 size)) (hm : most ≤ 4194304) (hs : size ≤ most) (hn : n ≤ 4294967296) (hlt : ¬ most - size < n) (z : Int) (hz : z = n) :
    Calls Tryd.prog 69 #[.pointer (some ⟨sb, 0, none⟩), .int .i64 z] w fun e w' => (∃ r, e = .returned r) ∧ Hid (Nw w w') := (need_any n most size h3 h4 hm hs hn z hz).mono (fun e w' ⟨h1, h2⟩ => by rw [if_neg hlt] at h1; exact ⟨h1, h2⟩)
set_option maxHeartbeats 16000000 in
set_option maxRecDepth 100000 in
theorem storedHead_any (h : StI sb rb K v b p skip left most told m s w) (hl : m.l = s.lst) :
    Calls Tryd.prog 61 #[.pointer (some ⟨sb, 0, none⟩)] w (Ps sb rb K v b skip left most told m s w (storedR most s (bt b p))) := by
  obtain ⟨P, hP⟩ : ∃ P : Ending → World → Prop, P = Ps sb rb K v b skip left most told m s w (storedR most s (bt b p)) := ⟨_, rfl⟩
  rw [← hP]
  obtain ⟨z1, z2⟩ := alignR_bt b p h.bl
  have hT : storedR most s (bt b p) = bindR (takeR 16) (fun n => bindR (takeR 16) fun k => if n + k ≠ 65535 then failR 61 else if most - s.out.length < n then failR 32 else if n = 0 then endB { s with md := 1, sto := 0 } else retR { s with md := 1, sto := n }) (bt b (up8 p)) := bindR_eq z1
  -- an error: the reader alone has turned
  have BAD : Hid (∀ y W, storedR most s (bt b p) = .bad y → SmI sb K (.pointer (some ⟨rb, 0, none⟩)) skip left most told m s W → Fr (fun k => ¬ K k) w W → P (gv y) W) := fun y W h1 h2 h3 => by
    rw [hP]
    exact .inl ⟨y, h1, rfl, ⟨m.l, h2⟩, h3⟩
  have OK : Hid (∀ s' p' m' r W, storedR most s (bt b p) = .ok (s', bt b p') → StI sb rb K v b p' skip left most told m' s' W → Fr (fun k => ¬ K k) w W → P (.returned r) W) := fun s' p' m' r W h1 h2 h3 => by
    rw [hP]
    exact .inr ⟨s', p', m', K, r, h1, rfl, h2, fun _ hk => hk, fun _ hk => .inl hk, h3⟩
  have HT : Hid (storedR most s (bt b p) = bindR (takeR 16) (fun n => bindR (takeR 16) fun k => if n + k ≠ 65535 then failR 61 else if most - s.out.length < n then failR 32 else if n = 0 then endB { s with md := 1, sto := 0 } else retR { s with md := 1, sto := n }) (bt b (up8 p))) := hT
  have hol := h.sm.ol
  have hml := h.sm.ml
  have HA : Hid (Calls Tryd.prog 75 #[.pointer (some ⟨rb, 0, none⟩)] w fun e w1 => (∃ r, e = .returned r) ∧ Hid (StI sb rb K v b (up8 p) skip left most told m s w1 ∧ Fr (fun k => ¬ K k) w w1)) := (balign_any h.rr h.bl).mono (fun e w1 ⟨a1, a2, a3⟩ => ⟨a1, h.go (h.lt.go a2 a3 z2) a3, h.frr a3⟩)
  have HG61 : Hid (∀ V, Calls Tryd.prog 64 #[.int .i64 61] V fun e w' => e = gv 61 ∧ w' = V) := fun V => giveUp_any 61 V
  have c0 := (sc0 h.sm.row).1
  clear hP h hT
  go_enter Tryd.func61, Tryd.ntmps61
  go_wp2_with (first | (go_at_call 75; (with_reducible refine HA.out.mono ?_); rintro e w1 ⟨⟨r, rfl⟩, H1⟩))
  have HN1 : Hid (Calls Tryd.prog 60 #[.pointer (some ⟨sb, 0, none⟩), .int .i64 16] w1 (Rsn sb rb K v b skip left most told m s w1 (takeR 16 (bt b (up8 p))))) := num_st H1.out.1 16 (by decide) 16 rfl
  go_at_call 60
  with_reducible refine HN1.out.mono ?_
  unfold Rsn
  rintro e w2 (⟨y, rfl, H2⟩ | ⟨n, rfl, H2⟩)
  · exact ⟨rfl, BAD.out y w2 (by rw [HT.out]; exact bindR_bad H2.out.1) H2.out.2.1 (H1.out.2.trans H2.out.2.2)⟩
  · have hn : n < 65536 := by
      obtain ⟨p2, q1, _⟩ := H2.out
      exact takeR_lt q1
    obtain ⟨p2, hp2⟩ : ∃ p2, Hid (takeR 16 (bt b (up8 p)) = .ok (n, bt b p2) ∧ StI sb rb K v b p2 skip left most told m s w2 ∧ Fr (fun k => ¬ K k) w w2) := by
      obtain ⟨p2, q1, q2, q3⟩ := H2.out
      exact ⟨p2, q1, q2, H1.out.2.trans q3⟩
    have HN2 : Hid (Calls Tryd.prog 60 #[.pointer (some ⟨sb, 0, none⟩), .int .i64 16] w2 (Rsn sb rb K v b skip left most told m s w2 (takeR 16 (bt b p2)))) := num_st hp2.out.2.1 16 (by decide) 16 rfl
    clear H1 H2 HN1 HA
    go_wp2_with fail
    go_at_call 60
    with_reducible refine HN2.out.mono ?_
    unfold Rsn
    rintro e w3 (⟨y, rfl, H3⟩ | ⟨k, rfl, H3⟩)
    · exact ⟨rfl, BAD.out y w3 (by rw [HT.out, bindR_eq hp2.out.1]; exact bindR_bad H3.out.1) H3.out.2.1 (hp2.out.2.2.trans H3.out.2.2)⟩
    · have hk : k < 65536 := by
        obtain ⟨p3, q1, _⟩ := H3.out
        exact takeR_lt q1
      have hx := xor_full n hn
      obtain ⟨p3, hp3⟩ : ∃ p3, Hid (storedR most s (bt b p) = (if n + k ≠ 65535 then failR 61 else if most - s.out.length < n then failR 32 else if n = 0 then endB { s with md := 1, sto := 0 } else retR { s with md := 1, sto := n }) (bt b p3) ∧ StI sb rb K v b p3 skip left most told m s w3 ∧ Fr (fun k => ¬ K k) w w3) := by
        obtain ⟨p3, q1, q2, q3⟩ := H3.out
        exact ⟨p3, by rw [HT.out, bindR_eq hp2.out.1, bindR_eq q1], q2, hp2.out.2.2.trans q3⟩
      clear H3 HN2 hp2 HT
      by_cases hnk : n + k = 65535
      · have hneq : ((k : Int) != ((65535 - n : Nat) : Int)) = false := by simp; omega
        by_cases hroom : most - s.out.length < n
        · have HND : Hid (Calls Tryd.prog 69 #[.pointer (some ⟨sb, 0, none⟩), .int .i64 n] w3 fun e w' => e = gv 32 ∧ Hid (Nw w3 w')) := need_no n s.out.length (sc3 hp3.out.2.1.sm.row).1 (sc4 hp3.out.2.1.sm.row).1 hml hol (by omega) hroom n rfl
          have HF : Hid (∀ W, Nw w3 W → P (gv 32) W) := fun W hW => BAD.out 32 W (by rw [hp3.out.1, if_neg (by omega), if_pos hroom]; rfl) (hp3.out.2.1.nw hW).sm (hp3.out.2.2.trans hW.any)
          clear hp3 BAD OK hnk
          generalize 65535 - n = x at *
          go_wp2_with (first | (go_at_call 69; (with_reducible refine HND.out.mono ?_); rintro e w4 ⟨rfl, H4⟩))
          exact ⟨rfl, HF.out _ H4.out⟩
        · have HND : Hid (Calls Tryd.prog 69 #[.pointer (some ⟨sb, 0, none⟩), .int .i64 n] w3 fun e w' => (∃ r, e = .returned r) ∧ Hid (Nw w3 w')) := need_yes n s.out.length (sc3 hp3.out.2.1.sm.row).1 (sc4 hp3.out.2.1.sm.row).1 hml hol (by omega) hroom n rfl
          have hp4 : ∀ W, Nw w3 W → StI sb rb K v b p3 skip left most told m { s with md := 1, sto := n } ((W.setCell ⟨sb, 9, none⟩ (.int .i64 n)).setCell ⟨sb, 7, none⟩ (.int .i64 1)) ∧ Fr (fun k => ¬ K k) w ((W.setCell ⟨sb, 9, none⟩ (.int .i64 n)).setCell ⟨sb, 7, none⟩ (.int .i64 1)) ∧ W.cell? ⟨sb, 9, none⟩ = some (.int .i64 s.sto) ∧ W.frozen? ⟨sb, 9, none⟩ = false ∧ (W.setCell ⟨sb, 9, none⟩ (.int .i64 n)).cell? ⟨sb, 7, none⟩ = some (.int .i64 s.md) ∧ (W.setCell ⟨sb, 9, none⟩ (.int .i64 n)).frozen? ⟨sb, 7, none⟩ = false := fun W hW => by
            have h4 := hp3.out.2.1.nw hW
            obtain ⟨q1, q2⟩ := h4.sm.set 9 (.int .i64 n) (.pointer (some ⟨rb, 0, none⟩)) skip left m { s with sto := n } rfl rfl rfl rfl rfl rfl rfl h4.sm.ls h4.sm.cs h4.sm.cf h4.sm.pu h4.sm.pd
            have h5 := h4.sm' q1 q2 rfl rfl
            obtain ⟨q3, q4⟩ := h5.sm.set 7 (.int .i64 1) (.pointer (some ⟨rb, 0, none⟩)) skip left m { s with md := 1, sto := n } rfl rfl rfl rfl rfl rfl rfl (fun _ => hl) (fun e => by cases e) h5.sm.cf h5.sm.pu h5.sm.pd
            exact ⟨h5.sm' q3 q4 rfl rfl, ((hp3.out.2.2.trans hW.any).trans (h4.frs q2)).trans (h5.frs q4), (sc9 h4.sm.row).1, (sc9 h4.sm.row).2, (sc7 h5.sm.row).1, (sc7 h5.sm.row).2⟩
          have HP4 : Hid (∀ W, Nw w3 W → StI sb rb K v b p3 skip left most told m { s with md := 1, sto := n } ((W.setCell ⟨sb, 9, none⟩ (.int .i64 n)).setCell ⟨sb, 7, none⟩ (.int .i64 1)) ∧ Fr (fun k => ¬ K k) w ((W.setCell ⟨sb, 9, none⟩ (.int .i64 n)).setCell ⟨sb, 7, none⟩ (.int .i64 1)) ∧ W.cell? ⟨sb, 9, none⟩ = some (.int .i64 s.sto) ∧ W.frozen? ⟨sb, 9, none⟩ = false ∧ (W.setCell ⟨sb, 9, none⟩ (.int .i64 n)).cell? ⟨sb, 7, none⟩ = some (.int .i64 s.md) ∧ (W.setCell ⟨sb, 9, none⟩ (.int .i64 n)).frozen? ⟨sb, 7, none⟩ = false) := hp4
          clear hp4
          by_cases hn0 : n = 0
          · have HE : Hid (∀ W, StI sb rb K v b p3 skip left most told m { s with md := 1, sto := n } W → Fr (fun k => ¬ K k) w W → Calls Tryd.prog 67 #[.pointer (some ⟨sb, 0, none⟩)] W fun e w5 => (∃ r, e = .returned r) ∧ Hid (∀ r, P (.returned r) w5)) := fun W hW hFW => (endBlock_any hW hl).mono (fun e w5 ⟨a1, ⟨s', p', m', a2, a3⟩, a4⟩ => ⟨a1, fun r => OK.out s' p' m' r w5 (by rw [hp3.out.1, if_neg (by omega), if_neg hroom, if_pos hn0, ← a2]; rw [hn0]) a3 (hFW.trans a4)⟩)
            have hn1 : ((n : Int) == 0) = true := by simp; omega
            clear hp3 BAD OK hnk hn0
            generalize 65535 - n = x at *
            go_upto_region 5 with (first | (go_at_call 69; (with_reducible refine HND.out.mono ?_); rintro e w4 ⟨⟨r, rfl⟩, H4⟩))
            obtain ⟨g1, g2, g3, g4, g5, g6⟩ := HP4.out w4 H4.out
            have HE2 : Hid (Calls Tryd.prog 67 #[.pointer (some ⟨sb, 0, none⟩)] ((w4.setCell ⟨sb, 9, none⟩ (.int .i64 n)).setCell ⟨sb, 7, none⟩ (.int .i64 1)) fun e w5 => (∃ r, e = .returned r) ∧ Hid (∀ r, P (.returned r) w5)) := HE.out _ g1 g2
            clear g1 g2 HE HP4
            go_wp2_with (first | (go_at_call 67; (with_reducible refine HE2.out.mono ?_); rintro e w5 ⟨⟨r, rfl⟩, HF⟩))
            go_end0
            exact HF.out _
          · have hn1 : ((n : Int) == 0) = false := by simp; omega
            have HF : Hid (∀ W r, StI sb rb K v b p3 skip left most told m { s with md := 1, sto := n } W → Fr (fun k => ¬ K k) w W → P (.returned r) W) := fun W r hW hFW => OK.out _ p3 m r W (by rw [hp3.out.1, if_neg (by omega), if_neg hroom, if_neg hn0]; rfl) hW hFW
            clear hp3 BAD OK hnk
            generalize 65535 - n = x at *
            go_upto_region 5 with (first | (go_at_call 69; (with_reducible refine HND.out.mono ?_); rintro e w4 ⟨⟨r, rfl⟩, H4⟩))
            obtain ⟨g1, g2, g3, g4, g5, g6⟩ := HP4.out w4 H4.out
            have HF2 : Hid (∀ r, P (.returned r) ((w4.setCell ⟨sb, 9, none⟩ (.int .i64 n)).setCell ⟨sb, 7, none⟩ (.int .i64 1))) := fun r => HF.out _ r g1 g2
            clear g1 g2 HF HP4
            go_wp2_with fail
            go_end0
            exact HF2.out _
      · have hneq : ((k : Int) != ((65535 - n : Nat) : Int)) = true := by simp; omega
        have HF : Hid (P (gv 61) w3) := BAD.out 61 w3 (by rw [hp3.out.1, if_pos hnk]; rfl) hp3.out.2.1.sm hp3.out.2.2
        clear hp3 BAD OK hnk
        generalize 65535 - n = x at *
        go_wp2_with (first | (go_at_call 64; (with_reducible refine (HG61.out _).mono ?_); rintro e w4 ⟨rfl, rfl⟩))
        exact ⟨rfl, HF.out⟩
end Go.Proofs.YtincbbnppcpfpaaDoor
