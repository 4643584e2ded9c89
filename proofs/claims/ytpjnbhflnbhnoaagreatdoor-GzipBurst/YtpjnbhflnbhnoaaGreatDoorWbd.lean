import Derived.Test.YtpjnbhflnbhnoaaGreatDoorWbc
namespace Go.Proofs.YtpjnbhflnbhnoaaGreatDoor
open Go.RowKit
set_option linter.unusedVariables false
variable {sb rb : Nat} {K : Nat → Prop} {rv : Value} {v : Value} {b : List By} {p : Nat} {skip left : Int} {most told : Nat} {m : Mm} {s : Sx} {w : World}
/-- A cell of the stream's own is set: what it stands for. -/
theorem SmI.set (h : SmI sb K rv skip left most told m s w) (j : Nat) (u : Value) (rv' : Value) (skip' left' : Int) (m' : Mm) (s' : Sx) (hr : (srow rv skip left most m s).setIfInBounds j u = srow rv' skip' left' most m' s')
    (e1 : m'.vw = m.vw) (e2 : m'.vp = m.vp) (e3 : m'.ow = m.ow) (e4 : m'.op = m.op) (e5 : m'.wl = m.wl) (e6 : s'.out = s.out) (e7 : s'.md ≠ 0 → m'.l = s'.lst) (e8 : s'.md = 2 → CodV K m'.us s'.la w ∧ CodV K m'.ud s'.lb w) (e9 : m'.fx = true → CodV K m'.us fixA w ∧ CodV K m'.ud fixB w) (e10 : ∃ a, m'.us = .pointer a) (e11 : ∃ a, m'.ud = .pointer a) :
    SmI sb K rv' skip' left' most told m' s' (w.setCell ⟨sb, j, none⟩ u) ∧ Fr (fun k => k = sb) w (w.setCell ⟨sb, j, none⟩ u) := by
  have f : Fr (fun k => k = sb) w (w.setCell ⟨sb, j, none⟩ u) := (Fr.refl _ _).setCell _ _ (.inl rfl)
  have hk : ∀ k, K k → ¬ k = sb := fun k hk e => h.ks (by rw [← e]; exact hk)
  refine ⟨⟨by rw [row_set h.row j u, hr], h.ks, fun k hk => Nat.lt_of_lt_of_le (h.lt k hk) f.size, ?_, ?_, ?_, ?_, ?_, e7, fun e => ⟨(e8 e).1.kept f hk, (e8 e).2.kept f hk⟩, fun e => ⟨(e9 e).1.kept f hk, (e9 e).2.kept f hk⟩, e10, e11, by rw [e6]; exact h.ol, h.ml, by rw [e6]; exact h.td⟩, f⟩
  · rw [e1, e3, e5]; exact h.win.kept f (fun g hg e => (h.nw g hg).2 e)
  · rw [e5, e6]; exact h.wi
  · rw [e2, e4, e6]; exact h.pl.kept f (fun g hg e => (h.np g hg).2.1 e)
  · rw [e3]; exact h.nw
  · rw [e3, e4]; exact h.np
theorem StI.sm' {m' : Mm} {s' : Sx} {skip' left' : Int} {w' : World} (h : StI sb rb K v b p skip left most told m s w) (hs : SmI sb K (.pointer (some ⟨rb, 0, none⟩)) skip' left' most told m' s' w') (f : Fr (fun k => k = sb) w w') (e3 : m'.ow = m.ow) (e4 : m'.op = m.op) : StI sb rb K v b p skip' left' most told m' s' w' :=
  ⟨hs, h.rr.kept f (fun e => h.re e) (fun g hg => by rw [hg]; exact h.sm.ks), h.re, by rw [e3]; exact h.rw, by rw [e4]; exact h.rp, h.bl⟩
theorem StI.frs {w' : World} (h : StI sb rb K v b p skip left most told m s w) (f : Fr (fun k => k = sb) w w') : Fr (fun k => ¬ K k) w w' := f.mono (fun i hi => .inl (by rw [hi]; exact h.sm.ks))
theorem alignR_bt (b : List By) (p : Nat) (hp : p ≤ 8 * b.length) : alignR (bt b p) = .ok ((), bt b (up8 p)) ∧ up8 p ≤ 8 * b.length := by
  have e : (bt b p).n % 8 + p = up8 p := by rw [bt_n]; unfold up8; omega
  unfold alignR
  rw [bt_rest, Nat.add_comm, e]
  exact ⟨rfl, by unfold up8; omega⟩
/-- The reader has turned somehow. -/
theorem StI.smr {w' : World} (h : StI sb rb K v b p skip left most told m s w) (f : Fr (fun k => k = rb) w w') : SmI sb K (.pointer (some ⟨rb, 0, none⟩)) skip left most told m s w' :=
  h.sm.keep f (fun e => h.re e.symm) (fun k hk e => h.kr (by rw [← e]; exact hk)) (fun g hg e => h.rw (by rw [hg, e])) (fun g hg e => h.rp (by rw [hg, e]))
/-- A number is read: the stream then. -/
def Rsn (sb rb : Nat) (K : Nat → Prop) (v : Value) (b : List By) (skip left : Int) (most told : Nat) (m : Mm) (s : Sx) (w : World) (r : Rz (Nat × Bt)) (e : Ending) (w' : World) : Prop :=
  (∃ y, e = gv y ∧ Hid (r = .bad y ∧ SmI sb K (.pointer (some ⟨rb, 0, none⟩)) skip left most told m s w' ∧ Fr (fun k => ¬ K k) w w')) ∨ (∃ x : Nat, e = .returned (.int .i64 x) ∧ Hid (∃ p', r = .ok (x, bt b p') ∧ StI sb rb K v b p' skip left most told m s w' ∧ Fr (fun k => ¬ K k) w w'))
theorem Ri.st {r : Rz (Nat × Bt)} {e : Ending} {w' : World} (h : StI sb rb K v b p skip left most told m s w) (hR : Ri sb rb (fun k => ¬ K k) v b w r e w') : Rsn sb rb K v b skip left most told m s w r e w' := by
  rcases hR with ⟨y, q1, q2, q3⟩ | ⟨x, p', q1, q2, q3, q4⟩
  · exact .inl ⟨y, q2, q1, h.smr q3, h.frr q3⟩
  · exact .inr ⟨x, q2, p', q1, h.go q3 q4, h.frr q4⟩
theorem num_st (h : StI sb rb K v b p skip left most told m s w) (n : Nat) (hn : n ≤ 32) (z : Int) (hz : z = n) : Calls Tryz.prog 182 #[.pointer (some ⟨sb, 0, none⟩), .int .i64 z] w (Rsn sb rb K v b skip left most told m s w (takeR n (bt b p))) :=
  (jnumber_any h.lt n hn z hz).mono (fun e w' hh => Ri.st h hh)
/-- What a step answers: the stream then, or the error. -/
def Ps (sb rb : Nat) (K : Nat → Prop) (v : Value) (b : List By) (skip left : Int) (most told : Nat) (m : Mm) (s : Sx) (w : World) (r : Rz (Sx × Bt)) (e : Ending) (w' : World) : Prop :=
  (∃ y, r = .bad y ∧ e = gv y ∧ (∃ l', SmI sb K (.pointer (some ⟨rb, 0, none⟩)) skip left most told { m with l := l' } s w') ∧ Fr (fun k => ¬ K k) w w') ∨
  (∃ s' p' m' K' x, r = .ok (s', bt b p') ∧ e = .returned x ∧ StI sb rb K' v b p' skip left most told m' s' w' ∧ (∀ k, K k → K' k) ∧ (∀ k, K' k → K k ∨ w.heap.size ≤ k) ∧ Fr (fun k => ¬ K k) w w')
set_option maxHeartbeats 8000000 in
theorem endBlock_any (h : StI sb rb K v b p skip left most told m s w) (hl : m.l = s.lst) :
    Calls Tryz.prog 189 #[.pointer (some ⟨sb, 0, none⟩)] w fun e w' => (∃ r, e = .returned r) ∧ (∃ s' p' m', endB s (bt b p) = .ok (s', bt b p') ∧ StI sb rb K v b p' skip left most told m' s' w') ∧ Fr (fun k => ¬ K k) w w' := by
  obtain ⟨P, hP⟩ : ∃ P : Ending → World → Prop, P = fun e w' => (∃ r, e = .returned r) ∧ (∃ s' p' m', endB s (bt b p) = .ok (s', bt b p') ∧ StI sb rb K v b p' skip left most told m' s' w') ∧ Fr (fun k => ¬ K k) w w' := ⟨_, rfl⟩
  rw [← hP]
  have c7 := sc7 h.sm.row
  obtain ⟨q1, q2⟩ := h.sm.set 7 (.int .i64 0) (.pointer (some ⟨rb, 0, none⟩)) skip left m { s with md := 0 } rfl rfl rfl rfl rfl rfl rfl (fun e => absurd rfl e) (fun e => by cases e) h.sm.cf h.sm.pu h.sm.pd
  have h1 := h.sm' q1 q2 rfl rfl
  have fr1 := h.frs q2
  obtain ⟨W1, hW1⟩ : ∃ W1, w.setCell ⟨sb, 7, none⟩ (.int .i64 0) = W1 := ⟨_, rfl⟩
  rw [hW1] at h1 fr1
  have c8 := sc8 h1.sm.row
  have c0 := sc0 h1.sm.row
  cases hs : s.lst with
  | false =>
    have HF : Hid (∀ r, P (.returned r) W1) := fun r => by
      rw [hP]
      refine ⟨⟨_, rfl⟩, ⟨{ s with md := 0 }, p, m, ?_, h1⟩, fr1⟩
      unfold endB; rw [if_neg (by rw [hs]; decide)]; rfl
    rw [hl, hs] at c8
    obtain ⟨c80, c81⟩ := c8
    obtain ⟨c70, c71⟩ := c7
    clear hP h h1 q1 q2 fr1 c0
    go_enter Tryz.func189, Tryz.ntmps189
    go_wp2_with fail
    go_end0
    exact HF.out _
  | true =>
    have HA : Hid (Calls Tryz.prog 201 #[.pointer (some ⟨rb, 0, none⟩)] W1 fun e w2 => (∃ r, e = .returned r) ∧ w2.cell? ⟨sb, 7, none⟩ = some (.int .i64 0) ∧ w2.frozen? ⟨sb, 7, none⟩ = false ∧ Hid (∀ r, P (.returned r) (w2.setCell ⟨sb, 7, none⟩ (.int .i64 3)))) := (balign_any h1.rr h1.bl).mono (fun e w2 ⟨a1, a2, a3⟩ => by
      obtain ⟨z1, z2⟩ := alignR_bt b p h.bl
      have h2 := h1.go (h1.lt.go a2 a3 z2) a3
      have c7 := sc7 h2.sm.row
      refine ⟨a1, c7.1, c7.2, fun r => ?_⟩
      obtain ⟨q1, q2⟩ := h2.sm.set 7 (.int .i64 3) (.pointer (some ⟨rb, 0, none⟩)) skip left m { s with md := 3 } rfl rfl rfl rfl rfl rfl rfl (fun _ => hl) (fun e => by cases e) h2.sm.cf h2.sm.pu h2.sm.pd
      have h3 := h2.sm' q1 q2 rfl rfl
      rw [hP]
      refine ⟨⟨_, rfl⟩, ⟨{ s with md := 3 }, up8 p, m, ?_, h3⟩, (fr1.trans (h1.frr a3)).trans (h2.frs q2)⟩
      unfold endB; rw [if_pos hs, bindR_eq z1]; rfl)
    rw [hl, hs] at c8
    obtain ⟨c80, c81⟩ := c8
    obtain ⟨c70, c71⟩ := c7
    obtain ⟨c00, c01⟩ := c0
    clear hP h h1 q1 q2 fr1
    go_enter Tryz.func189, Tryz.ntmps189
    go_wp2_with (first | (go_at_call 201; (with_reducible refine HA.out.mono ?_); rintro e w2 ⟨⟨r, rfl⟩, x0, x1, HF⟩))
    go_end0
    exact HF.out _
end Go.Proofs.YtpjnbhflnbhnoaaGreatDoor

namespace Go.Proofs.YtpjnbhflnbhnoaaGreatDoor
open Go.RowKit
set_option linter.unusedVariables false
variable {sb rb : Nat} {K : Nat → Prop} {rv : Value} {v : Value} {b : List By} {p : Nat} {skip left : Int} {most told : Nat} {m : Mm} {s : Sx} {w : World}
theorem xor_full (n : Nat) (h : n < 65536) : bits .xor .i64 (n : Int) 65535 = ((65535 - n : Nat) : Int) := by
  have e : n ^^^ 65535 = 65535 - n := by
    have h1 : (BitVec.ofNat 16 n ^^^ BitVec.allOnes 16).toNat = n ^^^ 65535 := by
      rw [BitVec.toNat_xor, BitVec.toNat_ofNat, BitVec.toNat_allOnes, Nat.mod_eq_of_lt h]
    have h2 : (BitVec.ofNat 16 n ^^^ BitVec.allOnes 16).toNat = 65535 - n := by
      rw [BitVec.xor_allOnes, BitVec.toNat_not, BitVec.toNat_ofNat, Nat.mod_eq_of_lt h]
    omega
  show IntKind.i64.wrap ((BitVec.ofInt 64 (n : Int) ^^^ BitVec.ofInt 64 65535).toNat : Int) = _
  have h3 : (BitVec.ofInt 64 65535).toNat = 65535 := by decide
  rw [BitVec.toNat_xor, ofInt_u64 n (by omega), h3, e, IntKind.wrap_i64]
  omega
theorem need_no (n size : Nat) (h3 : w.cell? ⟨sb, 3, none⟩ = some (.int .i64 most)) (h4 : w.cell? ⟨sb, 4, none⟩ = some (.int .i64 size)) (hm : most ≤ 4194304) (hs : size ≤ most) (hn : n ≤ 4294967296) (hlt : most - size < n) (z : Int) (hz : z = n) :
    Calls Tryz.prog 191 #[.pointer (some ⟨sb, 0, none⟩), .int .i64 z] w fun e w' => e = gv 32 ∧ Hid (Nw w w') := (need_any n most size h3 h4 hm hs hn z hz).mono (fun e w' ⟨h1, h2⟩ => by rw [if_pos hlt] at h1; exact ⟨h1, h2⟩)
theorem need_yes (n size : Nat) (h3 : w.cell? ⟨sb, 3, none⟩ = some (.int .i64 most)) (h4 : w.cell? ⟨sb, 4, none⟩ = some (.int .i64 size)) (hm : most ≤ 4194304) (hs : size ≤ most) (hn : n ≤ 4294967296) (hlt : ¬ most - size < n) (z : Int) (hz : z = n) :
    Calls Tryz.prog 191 #[.pointer (some ⟨sb, 0, none⟩), .int .i64 z] w fun e w' => (∃ r, e = .returned r) ∧ Hid (Nw w w') := (need_any n most size h3 h4 hm hs hn z hz).mono (fun e w' ⟨h1, h2⟩ => by rw [if_neg hlt] at h1; exact ⟨h1, h2⟩)
set_option maxHeartbeats 16000000 in
set_option maxRecDepth 100000 in
theorem storedHead_any (h : StI sb rb K v b p skip left most told m s w) (hl : m.l = s.lst) :
    Calls Tryz.prog 183 #[.pointer (some ⟨sb, 0, none⟩)] w (Ps sb rb K v b skip left most told m s w (storedR most s (bt b p))) := by
  obtain ⟨P, hP⟩ : ∃ P : Ending → World → Prop, P = Ps sb rb K v b skip left most told m s w (storedR most s (bt b p)) := ⟨_, rfl⟩
  rw [← hP]
  obtain ⟨z1, z2⟩ := alignR_bt b p h.bl
  have hT : storedR most s (bt b p) = bindR (takeR 16) (fun n => bindR (takeR 16) fun k => if n + k ≠ 65535 then failR 61 else if most - s.out.length < n then failR 32 else if n = 0 then endB { s with md := 1, sto := 0 } else retR { s with md := 1, sto := n }) (bt b (up8 p)) := bindR_eq z1
  -- an error: the reader alone has turned
  have BAD : Hid (∀ y W, storedR most s (bt b p) = .bad y → SmI sb K (.pointer (some ⟨rb, 0, none⟩)) skip left most told m s W → Fr (fun k => ¬ K k) w W → P (gv y) W) := fun y W h1 h2 h3 => by
    rw [hP]
    exact .inl ⟨y, h1, rfl, ⟨m.l, h2⟩, h3⟩
  have OK : Hid (∀ s' p' m' r W, storedR most s (bt b p) = .ok (s', bt b p') → StI sb rb K v b p' skip left most told m' s' W → Fr (fun k => ¬ K k) w W → P (.returned r) W) := fun s' p' m' r W h1 h2 h3 => by
    rw [hP]
    exact .inr ⟨s', p', m', K, r, h1, rfl, h2, fun _ hk => hk, fun _ hk => .inl hk, h3⟩
  have HT : Hid (storedR most s (bt b p) = bindR (takeR 16) (fun n => bindR (takeR 16) fun k => if n + k ≠ 65535 then failR 61 else if most - s.out.length < n then failR 32 else if n = 0 then endB { s with md := 1, sto := 0 } else retR { s with md := 1, sto := n }) (bt b (up8 p))) := hT
  have hol := h.sm.ol
  have hml := h.sm.ml
  have HA : Hid (Calls Tryz.prog 201 #[.pointer (some ⟨rb, 0, none⟩)] w fun e w1 => (∃ r, e = .returned r) ∧ Hid (StI sb rb K v b (up8 p) skip left most told m s w1 ∧ Fr (fun k => ¬ K k) w w1)) := (balign_any h.rr h.bl).mono (fun e w1 ⟨a1, a2, a3⟩ => ⟨a1, h.go (h.lt.go a2 a3 z2) a3, h.frr a3⟩)
  have HG61 : Hid (∀ V, Calls Tryz.prog 186 #[.int .i64 61] V fun e w' => e = gv 61 ∧ w' = V) := fun V => giveUp_any 61 V
  have c0 := (sc0 h.sm.row).1
  clear hP h hT
  go_enter Tryz.func183, Tryz.ntmps183
  go_wp2_with (first | (go_at_call 201; (with_reducible refine HA.out.mono ?_); rintro e w1 ⟨⟨r, rfl⟩, H1⟩))
  have HN1 : Hid (Calls Tryz.prog 182 #[.pointer (some ⟨sb, 0, none⟩), .int .i64 16] w1 (Rsn sb rb K v b skip left most told m s w1 (takeR 16 (bt b (up8 p))))) := num_st H1.out.1 16 (by decide) 16 rfl
  go_at_call 182
  with_reducible refine HN1.out.mono ?_
  unfold Rsn
  rintro e w2 (⟨y, rfl, H2⟩ | ⟨n, rfl, H2⟩)
  · exact ⟨rfl, BAD.out y w2 (by rw [HT.out]; exact bindR_bad H2.out.1) H2.out.2.1 (H1.out.2.trans H2.out.2.2)⟩
  · have hn : n < 65536 := by
      obtain ⟨p2, q1, _⟩ := H2.out
      exact takeR_lt q1
    obtain ⟨p2, hp2⟩ : ∃ p2, Hid (takeR 16 (bt b (up8 p)) = .ok (n, bt b p2) ∧ StI sb rb K v b p2 skip left most told m s w2 ∧ Fr (fun k => ¬ K k) w w2) := by
      obtain ⟨p2, q1, q2, q3⟩ := H2.out
      exact ⟨p2, q1, q2, H1.out.2.trans q3⟩
    have HN2 : Hid (Calls Tryz.prog 182 #[.pointer (some ⟨sb, 0, none⟩), .int .i64 16] w2 (Rsn sb rb K v b skip left most told m s w2 (takeR 16 (bt b p2)))) := num_st hp2.out.2.1 16 (by decide) 16 rfl
    clear H1 H2 HN1 HA
    go_wp2_with fail
    go_at_call 182
    with_reducible refine HN2.out.mono ?_
    unfold Rsn
    rintro e w3 (⟨y, rfl, H3⟩ | ⟨k, rfl, H3⟩)
    · exact ⟨rfl, BAD.out y w3 (by rw [HT.out, bindR_eq hp2.out.1]; exact bindR_bad H3.out.1) H3.out.2.1 (hp2.out.2.2.trans H3.out.2.2)⟩
    · have hk : k < 65536 := by
        obtain ⟨p3, q1, _⟩ := H3.out
        exact takeR_lt q1
      have hx := xor_full n hn
      obtain ⟨p3, hp3⟩ : ∃ p3, Hid (storedR most s (bt b p) = (if n + k ≠ 65535 then failR 61 else if most - s.out.length < n then failR 32 else if n = 0 then endB { s with md := 1, sto := 0 } else retR { s with md := 1, sto := n }) (bt b p3) ∧ StI sb rb K v b p3 skip left most told m s w3 ∧ Fr (fun k => ¬ K k) w w3) := by
        obtain ⟨p3, q1, q2, q3⟩ := H3.out
        exact ⟨p3, by rw [HT.out, bindR_eq hp2.out.1, bindR_eq q1], q2, hp2.out.2.2.trans q3⟩
      clear H3 HN2 hp2 HT
      by_cases hnk : n + k = 65535
      · have hneq : ((k : Int) != ((65535 - n : Nat) : Int)) = false := by simp; omega
        by_cases hroom : most - s.out.length < n
        · have HND : Hid (Calls Tryz.prog 191 #[.pointer (some ⟨sb, 0, none⟩), .int .i64 n] w3 fun e w' => e = gv 32 ∧ Hid (Nw w3 w')) := need_no n s.out.length (sc3 hp3.out.2.1.sm.row).1 (sc4 hp3.out.2.1.sm.row).1 hml hol (by omega) hroom n rfl
          have HF : Hid (∀ W, Nw w3 W → P (gv 32) W) := fun W hW => BAD.out 32 W (by rw [hp3.out.1, if_neg (by omega), if_pos hroom]; rfl) (hp3.out.2.1.nw hW).sm (hp3.out.2.2.trans hW.any)
          clear hp3 BAD OK hnk
          generalize 65535 - n = x at *
          go_wp2_with (first | (go_at_call 191; (with_reducible refine HND.out.mono ?_); rintro e w4 ⟨rfl, H4⟩))
          exact ⟨rfl, HF.out _ H4.out⟩
        · have HND : Hid (Calls Tryz.prog 191 #[.pointer (some ⟨sb, 0, none⟩), .int .i64 n] w3 fun e w' => (∃ r, e = .returned r) ∧ Hid (Nw w3 w')) := need_yes n s.out.length (sc3 hp3.out.2.1.sm.row).1 (sc4 hp3.out.2.1.sm.row).1 hml hol (by omega) hroom n rfl
          have hp4 : ∀ W, Nw w3 W → StI sb rb K v b p3 skip left most told m { s with md := 1, sto := n } ((W.setCell ⟨sb, 9, none⟩ (.int .i64 n)).setCell ⟨sb, 7, none⟩ (.int .i64 1)) ∧ Fr (fun k => ¬ K k) w ((W.setCell ⟨sb, 9, none⟩ (.int .i64 n)).setCell ⟨sb, 7, none⟩ (.int .i64 1)) ∧ W.cell? ⟨sb, 9, none⟩ = some (.int .i64 s.sto) ∧ W.frozen? ⟨sb, 9, none⟩ = false ∧ (W.setCell ⟨sb, 9, none⟩ (.int .i64 n)).cell? ⟨sb, 7, none⟩ = some (.int .i64 s.md) ∧ (W.setCell ⟨sb, 9, none⟩ (.int .i64 n)).frozen? ⟨sb, 7, none⟩ = false := fun W hW => by
            have h4 := hp3.out.2.1.nw hW
            obtain ⟨q1, q2⟩ := h4.sm.set 9 (.int .i64 n) (.pointer (some ⟨rb, 0, none⟩)) skip left m { s with sto := n } rfl rfl rfl rfl rfl rfl rfl h4.sm.ls h4.sm.cs h4.sm.cf h4.sm.pu h4.sm.pd
            have h5 := h4.sm' q1 q2 rfl rfl
            obtain ⟨q3, q4⟩ := h5.sm.set 7 (.int .i64 1) (.pointer (some ⟨rb, 0, none⟩)) skip left m { s with md := 1, sto := n } rfl rfl rfl rfl rfl rfl rfl (fun _ => hl) (fun e => by cases e) h5.sm.cf h5.sm.pu h5.sm.pd
            exact ⟨h5.sm' q3 q4 rfl rfl, ((hp3.out.2.2.trans hW.any).trans (h4.frs q2)).trans (h5.frs q4), (sc9 h4.sm.row).1, (sc9 h4.sm.row).2, (sc7 h5.sm.row).1, (sc7 h5.sm.row).2⟩
          have HP4 : Hid (∀ W, Nw w3 W → StI sb rb K v b p3 skip left most told m { s with md := 1, sto := n } ((W.setCell ⟨sb, 9, none⟩ (.int .i64 n)).setCell ⟨sb, 7, none⟩ (.int .i64 1)) ∧ Fr (fun k => ¬ K k) w ((W.setCell ⟨sb, 9, none⟩ (.int .i64 n)).setCell ⟨sb, 7, none⟩ (.int .i64 1)) ∧ W.cell? ⟨sb, 9, none⟩ = some (.int .i64 s.sto) ∧ W.frozen? ⟨sb, 9, none⟩ = false ∧ (W.setCell ⟨sb, 9, none⟩ (.int .i64 n)).cell? ⟨sb, 7, none⟩ = some (.int .i64 s.md) ∧ (W.setCell ⟨sb, 9, none⟩ (.int .i64 n)).frozen? ⟨sb, 7, none⟩ = false) := hp4
          clear hp4
          by_cases hn0 : n = 0
          · have HE : Hid (∀ W, StI sb rb K v b p3 skip left most told m { s with md := 1, sto := n } W → Fr (fun k => ¬ K k) w W → Calls Tryz.prog 189 #[.pointer (some ⟨sb, 0, none⟩)] W fun e w5 => (∃ r, e = .returned r) ∧ Hid (∀ r, P (.returned r) w5)) := fun W hW hFW => (endBlock_any hW hl).mono (fun e w5 ⟨a1, ⟨s', p', m', a2, a3⟩, a4⟩ => ⟨a1, fun r => OK.out s' p' m' r w5 (by rw [hp3.out.1, if_neg (by omega), if_neg hroom, if_pos hn0, ← a2]; rw [hn0]) a3 (hFW.trans a4)⟩)
            have hn1 : ((n : Int) == 0) = true := by simp; omega
            clear hp3 BAD OK hnk hn0
            generalize 65535 - n = x at *
            go_upto_region 5 with (first | (go_at_call 191; (with_reducible refine HND.out.mono ?_); rintro e w4 ⟨⟨r, rfl⟩, H4⟩))
            obtain ⟨g1, g2, g3, g4, g5, g6⟩ := HP4.out w4 H4.out
            have HE2 : Hid (Calls Tryz.prog 189 #[.pointer (some ⟨sb, 0, none⟩)] ((w4.setCell ⟨sb, 9, none⟩ (.int .i64 n)).setCell ⟨sb, 7, none⟩ (.int .i64 1)) fun e w5 => (∃ r, e = .returned r) ∧ Hid (∀ r, P (.returned r) w5)) := HE.out _ g1 g2
            clear g1 g2 HE HP4
            go_wp2_with (first | (go_at_call 189; (with_reducible refine HE2.out.mono ?_); rintro e w5 ⟨⟨r, rfl⟩, HF⟩))
            go_end0
            exact HF.out _
          · have hn1 : ((n : Int) == 0) = false := by simp; omega
            have HF : Hid (∀ W r, StI sb rb K v b p3 skip left most told m { s with md := 1, sto := n } W → Fr (fun k => ¬ K k) w W → P (.returned r) W) := fun W r hW hFW => OK.out _ p3 m r W (by rw [hp3.out.1, if_neg (by omega), if_neg hroom, if_neg hn0]; rfl) hW hFW
            clear hp3 BAD OK hnk
            generalize 65535 - n = x at *
            go_upto_region 5 with (first | (go_at_call 191; (with_reducible refine HND.out.mono ?_); rintro e w4 ⟨⟨r, rfl⟩, H4⟩))
            obtain ⟨g1, g2, g3, g4, g5, g6⟩ := HP4.out w4 H4.out
            have HF2 : Hid (∀ r, P (.returned r) ((w4.setCell ⟨sb, 9, none⟩ (.int .i64 n)).setCell ⟨sb, 7, none⟩ (.int .i64 1))) := fun r => HF.out _ r g1 g2
            clear g1 g2 HF HP4
            go_wp2_with fail
            go_end0
            exact HF2.out _
      · have hneq : ((k : Int) != ((65535 - n : Nat) : Int)) = true := by simp; omega
        have HF : Hid (P (gv 61) w3) := BAD.out 61 w3 (by rw [hp3.out.1, if_pos hnk]; rfl) hp3.out.2.1.sm hp3.out.2.2
        clear hp3 BAD OK hnk
        generalize 65535 - n = x at *
        go_wp2_with (first | (go_at_call 186; (with_reducible refine (HG61.out _).mono ?_); rintro e w4 ⟨rfl, rfl⟩))
        exact ⟨rfl, HF.out⟩
end Go.Proofs.YtpjnbhflnbhnoaaGreatDoor

namespace Go.Proofs.YtpjnbhflnbhnoaaGreatDoor
open Go.RowKit
set_option linter.unusedVariables false
variable {sb rb : Nat} {K : Nat → Prop} {rv : Value} {v : Value} {b : List By} {p : Nat} {skip left : Int} {most told : Nat} {m : Mm} {s : Sx} {w : World}
/-- More blocks that are only read. -/
theorem StI.more {K' : Nat → Prop} (h : StI sb rb K v b p skip left most told m s w) (h1 : ∀ k, K k → K' k) (h2 : ∀ k, K' k → K k ∨ (k < w.heap.size ∧ k ≠ sb ∧ k ≠ rb ∧ m.ow ≠ some k ∧ m.op ≠ some k)) : StI sb rb K' v b p skip left most told m s w := by
  have hm := h.sm
  refine ⟨⟨hm.row, fun hk => ?_, fun k hk => ?_, hm.win, hm.wi, hm.pl, fun g hg => ⟨fun hk => ?_, (hm.nw g hg).2⟩, fun g hg => ⟨fun hk => ?_, (hm.np g hg).2⟩, hm.ls, fun e => ⟨(hm.cs e).1.mono h1, (hm.cs e).2.mono h1⟩, fun e => ⟨(hm.cf e).1.mono h1, (hm.cf e).2.mono h1⟩, hm.pu, hm.pd, hm.ol, hm.ml, hm.td⟩, ⟨h.rr.row, h.rr.sl.mono (fun g hg hk => hg (h1 g hk)), fun hk => ?_, h.rr.bl⟩, h.re, h.rw, h.rp, h.bl⟩
  · rcases h2 sb hk with e | e
    · exact hm.ks e
    · exact e.2.1 rfl
  · rcases h2 k hk with e | e
    · exact hm.lt k e
    · exact e.1
  · rcases h2 g hk with e | e
    · exact (hm.nw g hg).1 e
    · exact e.2.2.2.1 hg
  · rcases h2 g hk with e | e
    · exact (hm.np g hg).1 e
    · exact e.2.2.2.2 hg
  · rcases h2 rb hk with e | e
    · exact h.kr e
    · exact e.2.2.1 rfl
/-- Stored bytes, one behind the other. -/
theorem byte_ok (most : Nat) (s : Sx) (b : List By) (p : Nat) (hm : s.md = 1) (hp : p + 8 ≤ 8 * b.length) : takeR 8 (bt b p) = .ok (le b / 2 ^ p % 256, bt b (p + 8)) := by
  rw [← bt_rest]
  unfold takeR
  rw [if_neg (by rw [bt_n]; omega), bt_x]
theorem bytes_run (most : Nat) (b : List By) : ∀ (n p : Nat) (s : Sx), s.md = 1 → 1 ≤ n → n ≤ s.sto → p + 8 * n ≤ 8 * b.length →
    (n < s.sto → run most s (bt b p) = run most { s with out := s.out ++ lows (le b / 2 ^ p) n, sto := s.sto - n } (bt b (p + 8 * n))) ∧
    (n = s.sto → ∀ s' t', endB { s with sto := 0, out := s.out ++ lows (le b / 2 ^ p) n } (bt b (p + 8 * n)) = .ok (s', t') → run most s (bt b p) = run most s' t') := by
  intro n
  induction n with
  | zero => intro p s _ h; omega
  | succ n ih =>
    intro p s hm h1 h2 hp
    have hb : BitVec.ofNat 8 (le b / 2 ^ p % 256) = BitVec.ofNat 8 (le b / 2 ^ p) := by
      apply BitVec.eq_of_toNat_eq
      simp only [BitVec.toNat_ofNat]
      omega
    have hs : stepR most s (bt b p) = (if s.sto ≤ 1 then endB { s with sto := 0, out := s.out ++ [BitVec.ofNat 8 (le b / 2 ^ p)] } else retR { s with sto := s.sto - 1, out := s.out ++ [BitVec.ofNat 8 (le b / 2 ^ p)] }) (bt b (p + 8)) := by
      rw [stepR, if_neg (by omega), if_pos hm, byteR, bindR_eq (byte_ok most s b p hm (by omega)), hb]
    by_cases hn : n = 0
    · subst hn
      have hl : lows (le b / 2 ^ p) (0 + 1) = [BitVec.ofNat 8 (le b / 2 ^ p)] := rfl
      rw [hl]
      constructor
      · intro hlt
        rw [if_neg (by omega)] at hs
        rw [run_ok (by omega) hs]
      · intro he s' t' hE
        rw [if_pos (by omega)] at hs
        have hE' : endB { s with sto := 0, out := s.out ++ [BitVec.ofNat 8 (le b / 2 ^ p)] } (bt b (p + 8)) = .ok (s', t') := hE
        rw [hE'] at hs
        exact run_ok (by omega) hs
    · rw [if_neg (by omega)] at hs
      have hr := run_ok (by omega) hs
      obtain ⟨i1, i2⟩ := ih (p + 8) { s with sto := s.sto - 1, out := s.out ++ [BitVec.ofNat 8 (le b / 2 ^ p)] } hm (by omega) (by simp only; omega) (by omega)
      have hx : le b / 2 ^ (p + 8) = le b / 2 ^ p / 256 := by rw [Nat.pow_add, Nat.div_div_eq_div_mul]
      have hll : lows (le b / 2 ^ p) (n + 1) = BitVec.ofNat 8 (le b / 2 ^ p) :: lows (le b / 2 ^ (p + 8)) n := by rw [hx]; rfl
      constructor
      · intro hlt
        rw [hr, i1 (by simp only; omega), hll]
        simp only [List.append_assoc, List.singleton_append]
        rw [show s.sto - 1 - n = s.sto - (n + 1) by omega, show p + 8 + 8 * n = p + 8 * (n + 1) by omega]
      · intro he s' t' hE
        rw [hr]
        refine i2 (by simp only; omega) s' t' ?_
        rw [hll] at hE
        simp only [List.append_assoc, List.singleton_append]
        rw [show p + 8 + 8 * n = p + 8 * (n + 1) by omega]
        exact hE
/-- What a step comes to: so many steps of the document's, or its error. -/
def Pst (sb rb : Nat) (K : Nat → Prop) (v : Value) (b : List By) (p : Nat) (skip left : Int) (most told : Nat) (m : Mm) (s : Sx) (w : World) (e : Ending) (w' : World) : Prop :=
  (∃ y, stepR most s (bt b p) = .bad y ∧ e = gv y ∧ (∃ l', SmI sb K (.pointer (some ⟨rb, 0, none⟩)) skip left most told { m with l := l' } s w') ∧ Fr (fun k => ¬ K k) w w') ∨
  (∃ s' p' m' K' x, run most s (bt b p) = run most s' (bt b p') ∧ p < p' ∧ Bd most p' s' ∧ e = .returned x ∧ StI sb rb K' v b p' skip left most told m' s' w' ∧ (∀ k, K k → K' k) ∧ (∀ k, K' k → K k ∨ w.heap.size ≤ k) ∧ Fr (fun k => ¬ K k) w w')
/-- How the loop of stored bytes stands. -/
def SbI (sb rb : Nat) (K : Nat → Prop) (v : Value) (b : List By) (p' : Nat) (skip left : Int) (most told : Nat) (m : Mm) (s : Sx) (w : World) (L : List By) (x : Value) (I : Nat) (W : World) : Prop :=
  ∃ m' K', StI sb rb K' v b p' skip left most told m' { s with out := s.out ++ L.take I } W ∧ m'.l = m.l ∧ (∀ k, K k → K' k) ∧ (∀ k, K' k → K k ∨ w.heap.size ≤ k) ∧ Sl (fun k => ¬ K' k) x L W ∧ Fr (fun k => ¬ K k) w W
theorem SbI.step {p' : Nat} {L : List By} {x : Value} {I : Nat} {W : World} (h : SbI sb rb K v b p' skip left most told m s w L x I W) (hI : I < L.length) (hr : s.out.length + L.length ≤ most) (z : Int) (hz : z = (L[I]).toNat) :
    Calls Tryz.prog 188 #[.pointer (some ⟨sb, 0, none⟩), .int .u8 z] W fun e W' => (∃ r, e = .returned r) ∧ Hid (SbI sb rb K v b p' skip left most told m s w L x (I + 1) W') := by
  obtain ⟨m', K', h1, h2, h3, h4, h5, h6⟩ := h
  have hlt : (L.take I).length = I := by rw [List.length_take]; omega
  refine (put_any h1 L[I] z hz (by simp only [List.length_append, hlt]; omega)).mono ?_
  rintro e W' ⟨a1, ⟨m2, a2, a3, a4, a5, a6⟩, a7⟩
  refine ⟨a1, m2, K', ?_, a2.trans h2, h3, h4, h5.kept a7 (fun g hg => hg), ?_⟩
  · have e : ({ s with out := s.out ++ L.take I } : Sx).put L[I] = { s with out := s.out ++ L.take (I + 1) } := by
      unfold Sx.put
      simp only [List.append_assoc]
      rw [List.take_add_one, List.getElem?_eq_getElem hI]
      rfl
    rw [e] at a6
    exact a6
  · exact h6.then a7 (fun i hi => by
      by_cases hk : K i
      · exact absurd (h3 i hk) hi
      · exact .inl hk)
set_option maxHeartbeats 16000000 in
set_option maxRecDepth 100000 in
theorem storedBytes_any (h : StI sb rb K v b p skip left most told m s w) (hb : Bd most p s) (hm : s.md = 1) :
    Calls Tryz.prog 163 #[.pointer (some ⟨sb, 0, none⟩)] w (Pst sb rb K v b p skip left most told m s w) := by
  obtain ⟨P, hP⟩ : ∃ P : Ending → World → Prop, P = Pst sb rb K v b p skip left most told m s w := ⟨_, rfl⟩
  rw [← hP]
  obtain ⟨hs1, hs2, hs3, hp8⟩ := hb.2 hm
  have hpl := h.bl
  have hbl := h.rr.bl
  have hol := h.sm.ol
  have hml := h.sm.ml
  obtain ⟨q, hq⟩ : ∃ q, q = (8 * b.length - p) / 8 := ⟨_, rfl⟩
  obtain ⟨n, hn⟩ : ∃ n, n = min s.sto q := ⟨_, rfl⟩
  have HST : Hid (StI sb rb K v b p skip left most told m s w) := h
  have KEY : Hid (∀ V, Nw w V → V.cell? ⟨sb, 0, none⟩ = some (.pointer (some ⟨rb, 0, none⟩)) ∧ V.cell? ⟨sb, 9, none⟩ = some (.int .i64 s.sto)) := fun V hV => ⟨(sc0 (h.nw hV).sm.row).1, (sc9 (h.nw hV).sm.row).1⟩
  have HL : Hid (∀ V, Nw w V → Calls Tryz.prog 128 #[.pointer (some ⟨rb, 0, none⟩)] V fun e w' => e = .returned (.int .i64 (8 * b.length - p : Nat)) ∧ Hid (Nw w w')) := fun V hV => (left_any (h.nw hV).rr h.bl).mono (fun e w' ⟨a1, a2⟩ => ⟨a1, hV.trans a2⟩)
  obtain ⟨c0, c9⟩ := KEY.out w (Fr.refl _ _)
  have hN0 : Nw w w := Fr.refl _ _
  have hqi : ((8 * b.length - p : Nat) : Int) / 8 = (q : Int) := by omega
  have hmin : min (s.sto : Int) (q : Int) = (n : Int) := by omega
  have hnl : n ≤ 65535 := by omega
  have HQ : Hid (IntKind.i64.wrap (q : Int) = (q : Int)) := by
    show _ = _
    rw [IntKind.wrap_i64]; omega
  have hq3 : q ≤ 200000000000000 := by omega
  have hq2 : 8 * b.length - p ≤ 1600000000000000 := by omega
  have HP : Hid (P = Pst sb rb K v b p skip left most told m s w) := hP
  have HB : Hid (n = min s.sto q ∧ q = (8 * b.length - p) / 8) := ⟨hn, hq⟩
  clear hP h hb hn hq
  have HX : Hid (1 ≤ s.sto ∧ s.sto ≤ most - s.out.length ∧ s.sto ≤ 65535 ∧ p % 8 = 0 ∧ p ≤ 8 * b.length ∧ s.out.length ≤ most) := ⟨hs1, hs2, hs3, hp8, hpl, hol⟩
  clear hs1 hs2 hp8 hpl hol hbl
  generalize hLL : 8 * b.length - p = LL at *
  have HLL : Hid (8 * b.length - p = LL) := hLL
  clear hLL
  go_enter Tryz.func163, Tryz.ntmps163
  go_wp2_with fail
  go_cut [2] (fun nn wx => nn = .int .i64 n ∧ Hid (Nw w wx))
  case first =>
    clear HB HP HX HST HLL
    go_region_held3 (fun w' => w'.cell? ⟨sb, 0, none⟩ = some (.pointer (some ⟨rb, 0, none⟩)) ∧ w'.cell? ⟨sb, 9, none⟩ = some (.int .i64 s.sto))
        (first | exact KEY.out _ (by assumption) | exact KEY.out _ (Fr.refl _ _).drew | exact KEY.out _ (Fr.refl _ _))
        (first
          | (go_at_call 128; with_reducible refine (HL.out _ ?_).mono ?_; (first | assumption | exact (Fr.refl _ _).drew | exact Fr.refl _ _ | exact (Fr.refl _ _).drewN _); rintro e w2 ⟨rfl, H2⟩; have hN2 := H2.out))
    all_goals go_wp2_with fail
    all_goals go_meet
    all_goals exact ⟨by rw [HQ.out, hmin], hN2⟩
  case rest =>
    obtain ⟨rfl, HN⟩ := hcut
    clear KEY HL c0 c9 hN0 hqi hmin hq2
    have hST := HST.out.nw HN.out
    by_cases hn0 : n = 0
    · have HF : Hid (P (gv 4) wc) := by
        show P _ _
        rw [HP.out]
        refine .inl ⟨4, ?_, rfl, ⟨m.l, hST.sm⟩, HN.out.any⟩
        obtain ⟨x1, x2, x3, x4, x5, x6⟩ := HX.out
        obtain ⟨y1, y2⟩ := HB.out
        have hlt : 8 * b.length - p < 8 := by
          have := HLL.out
          omega
        rw [stepR, if_neg (by omega), if_pos hm, byteR]
        apply bindR_bad
        unfold takeR
        rw [if_pos (by rw [bt_n]; exact hlt)]
      have HG : Hid (∀ V, Calls Tryz.prog 186 #[.int .i64 4] V fun e w' => e = gv 4 ∧ w' = V) := fun V => giveUp_any 4 V
      subst hn0
      clear HB HP HX HST HLL HN hST
      go_wp2_with (first | (go_at_call 186; (with_reducible refine (HG.out _).mono ?_); rintro e w4 ⟨rfl, rfl⟩))
      exact ⟨rfl, HF.out⟩
    · have hn1 : ((n : Int) == 0) = false := by simp; omega
      obtain ⟨x1, x2, x3, x4, x5, x6⟩ := HX.out
      obtain ⟨y1, y2⟩ := HB.out
      have hll := HLL.out
      obtain ⟨L, hL⟩ : ∃ L, L = lows (le b / 2 ^ p) n := ⟨_, rfl⟩
      have hLl : L.length = n := by rw [hL, lows_length]
      have hup : up8 p = p := by unfold up8; omega
      have hbF : bytesF (8 * b.length) (le b) p n = (L, 0, p + 8 * n) := by
        rw [bytesF, if_neg (by omega), hup, if_neg (by omega), Int.toNat_natCast, ← hL]
      have hBy := bbytes_any hST.rr hST.bl n (by omega)
      rw [hbF] at hBy
      have HBy : Hid (Calls Tryz.prog 187 #[.pointer (some ⟨rb, 0, none⟩), .int .i64 n] wc fun e w2 => ∃ a c, e = .returned (.tuple #[.slice a n c, .int .i64 0]) ∧ n ≤ c ∧ c < 9223372036854775808 ∧ Hid (SbI sb rb K v b (p + 8 * n) skip left most told m s w L (.slice a n c) 0 w2)) := hBy.mono (fun e w2 hh => by
        obtain ⟨x, a1, a2, a3, a4⟩ := hh
        obtain ⟨a, c, e1, e2, e3⟩ := a2.sl.form
        subst e1
        simp only at a2 e2 a1
        rw [hLl] at a1 a2 e2
        refine ⟨a, c, a1, e2, e3, ?_⟩
        have hS2 := hST.go (hST.lt.go a3 a4 (by simp only; omega)) a4
        rcases a2 with ⟨_, b2⟩ | ⟨g, b1, b2⟩
        · rw [b2] at hLl; simp at hLl; omega
        · have hgl := b2.lt
          have hgr := hST.rr.lt
          have hgs := hST.sm.lts
          have hM : StI sb rb (fun k => K k ∨ k = g) v b (p + 8 * n) skip left most told m s w2 := hS2.more (fun k hk => .inl hk) (fun k hk => by
            rcases hk with e | e
            · exact .inl e
            · subst e
              exact .inr ⟨hgl, by omega, by omega, fun e => b1 (hST.sm.win.lt k e), fun e => b1 (hST.sm.pl.lt k e)⟩)
          refine ⟨m, fun k => K k ∨ k = g, ?_, rfl, fun k hk => .inl hk, fun k hk => ?_, .inr ⟨g, fun hx => hx (.inr rfl), b2.slb⟩, HN.out.any.trans (hST.frr a4)⟩
          · simp only [List.take_zero, List.append_nil]
            exact hM
          · rcases hk with e | e
            · exact .inl e
            · have := HN.out.size
              exact .inr (by omega))
      have c0 := (sc0 hST.sm.row).1
      have hLr : s.out.length + L.length ≤ most := by omega
      -- the loop's end
      have HEND : Hid (∀ x W, SbI sb rb K v b (p + 8 * n) skip left most told m s w L x n W → W.cell? ⟨sb, 9, none⟩ = some (.int .i64 s.sto) ∧ W.frozen? ⟨sb, 9, none⟩ = false ∧ (W.setCell ⟨sb, 9, none⟩ (.int .i64 (s.sto - n : Nat))).cell? ⟨sb, 9, none⟩ = some (.int .i64 (s.sto - n : Nat)) ∧ (n < s.sto → ∀ r, P (.returned r) (W.setCell ⟨sb, 9, none⟩ (.int .i64 (s.sto - n : Nat)))) ∧ (n = s.sto → Calls Tryz.prog 189 #[.pointer (some ⟨sb, 0, none⟩)] (W.setCell ⟨sb, 9, none⟩ (.int .i64 (s.sto - n : Nat))) fun e w5 => (∃ r, e = .returned r) ∧ Hid (∀ r, P (.returned r) w5))) := by
        rintro x W ⟨m', K', h1, h2, h3, h4, h5, h6⟩
        rw [← hLl, List.take_length] at h1
        rw [hLl] at h1
        have hls : m'.l = s.lst := h1.sm.ls (by simp only; omega)
        obtain ⟨q1, q2⟩ := h1.sm.set 9 (.int .i64 (s.sto - n : Nat)) (.pointer (some ⟨rb, 0, none⟩)) skip left m' { s with out := s.out ++ L, sto := s.sto - n } rfl rfl rfl rfl rfl rfl rfl h1.sm.ls h1.sm.cs h1.sm.cf h1.sm.pu h1.sm.pd
        have h7 := h1.sm' q1 q2 rfl rfl
        have f7 : Fr (fun k => ¬ K k) w (W.setCell ⟨sb, 9, none⟩ (.int .i64 (s.sto - n : Nat))) := h6.then (h1.frs q2) (fun i hi => .inl (fun hk => hi (h3 i hk)))
        have hrun := bytes_run most b n p s hm (by omega) (by omega) (by omega)
        rw [← hL] at hrun
        refine ⟨(sc9 h1.sm.row).1, (sc9 h1.sm.row).2, (sc9 h7.sm.row).1, fun hlt r => ?_, fun he => ?_⟩
        · rw [HP.out]
          refine .inr ⟨_, _, m', K', r, hrun.1 hlt, by omega, ⟨by simp only; omega, fun _ => ⟨by simp only; omega, ?_, by simp only; omega, by omega⟩⟩, rfl, h7, h3, h4, f7⟩
          simp only [List.length_append]
          omega
        · refine (endBlock_any h7 hls).mono (fun e w5 ⟨a1, ⟨s', p', m2, a2, a3⟩, a4⟩ => ⟨a1, fun r => ?_⟩)
          rw [HP.out]
          have he0 : ({ s with out := s.out ++ L, sto := s.sto - n } : Sx) = { s with sto := 0, out := s.out ++ L } := by
            rw [he]; simp
          rw [he0] at a2
          have hp' : p + 8 * n ≤ p' ∧ (s'.md = 0 ∨ s'.md = 3) := by
            have a2' := a2
            unfold endB at a2'
            by_cases hlst : s.lst = true
            · rw [if_pos hlst] at a2'
              obtain ⟨_, t1, g1, g2⟩ := bindR_ok a2'
              obtain ⟨z1, z2⟩ := alignR_bt b (p + 8 * n) h7.bl
              rw [z1] at g1
              injection g1 with g1
              injection g1 with _ g1
              injection g2 with g2
              injection g2 with g2 g3
              rw [← g1] at g3
              have h8 : up8 (p + 8 * n) = p + 8 * n := by unfold up8; omega
              rw [h8] at g3
              have : (bt b (p + 8 * n)).n = (bt b p').n := by rw [g3]
              rw [bt_n, bt_n] at this
              have hb1 := a3.bl
              have hb2 := h7.bl
              exact ⟨by omega, .inr (by rw [← g2])⟩
            · rw [if_neg hlst] at a2'
              injection a2' with a2'
              injection a2' with g2 g3
              have : (bt b (p + 8 * n)).n = (bt b p').n := by rw [g3]
              rw [bt_n, bt_n] at this
              have hb1 := a3.bl
              have hb2 := h7.bl
              exact ⟨by omega, .inl (by rw [← g2])⟩
          refine .inr ⟨s', p', m2, K', r, hrun.2 he s' _ a2, by omega, ⟨by omega, fun e => by omega⟩, rfl, a3, h3, h4, f7.then a4 (fun i hi => .inl (fun hk => hi (h3 i hk)))⟩
      have hsn : (s.sto : Int) - (n : Int) = ((s.sto - n : Nat) : Int) := by omega
      have hnsto : n ≤ s.sto := by omega
      have HSTP : Hid (∀ x I W, SbI sb rb K v b (p + 8 * n) skip left most told m s w L x I W → I < n → ∃ (y : Nat), y ≤ 255 ∧ (∀ a c, x = .slice a n c → ∃ g o, a = some ⟨g, o, none⟩ ∧ W.cell? ⟨g, o + I, none⟩ = some (.int .u8 y)) ∧ Hid (Calls Tryz.prog 188 #[.pointer (some ⟨sb, 0, none⟩), .int .u8 y] W fun e W' => (∃ r, e = .returned r) ∧ Hid (SbI sb rb K v b (p + 8 * n) skip left most told m s w L x (I + 1) W'))) := fun x I W hS hI => by
        have hIL : I < L.length := by omega
        refine ⟨(L[I]).toNat, by have := (L[I]).isLt; omega, fun a c hx => ?_, hS.step hIL hLr _ rfl⟩
        obtain ⟨m', K', h1, h2, h3, h4, h5, h6⟩ := hS
        rcases h5 with ⟨a', e1, e2⟩ | ⟨g, hg, o, c', e1, e2, e3, e4⟩
        · rw [e2] at hIL; simp at hIL
        · rw [hx] at e1
          injection e1 with e1
          exact ⟨g, o, e1, e4.at I _ (List.getElem?_eq_getElem hIL)⟩
      clear HB HP HX HST HLL HN hST y1 y2 hll hbF hBy hL x1 x2 x4 x5 x6 hn0 hLr hup hLl
      go_wp2_with (first | (go_at_call 187; (with_reducible refine HBy.out.mono ?_); rintro e w2 ⟨a, c, rfl, hca, hcb, H2⟩))
      clear HBy c0
      go_loopg [32] n (fun kx i wr => ∃ I : Nat, I ≤ n ∧ n - I ≤ kx ∧ i = .int .i64 I ∧ Hid (SbI sb rb K v b (p + 8 * n) skip left most told m s w L (.slice a n c) I wr))
      case atStart => exact ⟨0, by omega, by omega, rfl, H2⟩
      case round =>
        obtain ⟨I, hI, hkx, rfl, HI⟩ := hrel
        clear H2
        by_cases hlt : I < n
        · obtain ⟨y, hy, hy2, HY⟩ := HSTP.out _ I wr HI.out hlt
          obtain ⟨g, o, rfl, hcell⟩ := hy2 a c rfl
          have hz : (I : Int) < (n : Int) := by omega
          clear HSTP HEND HI hy2
          go_wp2_with (first | (go_at_call 188; (with_reducible refine HY.out.mono ?_); rintro e w3 ⟨⟨r, rfl⟩, H3⟩))
          go_roundg (n - (I + 1))
          all_goals (first | omega | exact ⟨I + 1, by omega, by omega, by first | rfl | (congr 1), H3⟩)
        · obtain rfl : I = n := by omega
          have hz : ¬ (I : Int) < (I : Int) := by omega
          obtain ⟨g1, g2, g3, g4, g5⟩ := HEND.out _ wr HI.out
          by_cases he : I < s.sto
          · have HF : Hid (∀ r, P (.returned r) (wr.setCell ⟨sb, 9, none⟩ (.int .i64 (s.sto - I : Nat)))) := g4 he
            have hz2 : (((s.sto - I : Nat) : Int) == 0) = false := by simp; omega
            have hb9 : s.sto - I ≤ 65535 := by omega
            clear g4 g5 HSTP HEND HI he
            generalize s.sto - I = d at *
            generalize s.sto = sto at *
            go_wp2_with fail
            go_end0
            exact HF.out _
          · have HE : Hid (Calls Tryz.prog 189 #[.pointer (some ⟨sb, 0, none⟩)] (wr.setCell ⟨sb, 9, none⟩ (.int .i64 (s.sto - I : Nat))) fun e w5 => (∃ r, e = .returned r) ∧ Hid (∀ r, P (.returned r) w5)) := g5 (by omega)
            have hz2 : (((s.sto - I : Nat) : Int) == 0) = true := by simp; omega
            have hb9 : s.sto - I ≤ 65535 := by omega
            clear g4 g5 HSTP HEND HI he
            generalize s.sto - I = d at *
            generalize s.sto = sto at *
            go_wp2_with (first | (go_at_call 189; (with_reducible refine HE.out.mono ?_); rintro e w5 ⟨⟨r, rfl⟩, HF⟩))
            go_end0
            exact HF.out _
end Go.Proofs.YtpjnbhflnbhnoaaGreatDoor
