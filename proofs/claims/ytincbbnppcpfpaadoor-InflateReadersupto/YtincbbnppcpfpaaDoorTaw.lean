import Derived.Test.YtincbbnppcpfpaaDoorTav
namespace Go.Proofs.YtincbbnppcpfpaaDoor
open Go.RowKit
set_option linter.unusedVariables false
variable {sb rb : Nat} {K : Nat → Prop} {rv : Value} {v : Value} {b : List By} {p : Nat} {skip left : Int} {most told : Nat} {m : Mm} {s : Sx} {w : World}
/-- More blocks that are only read. -/
theorem StI.more {K' : Nat → Prop} (h : StI sb rb K v b p skip left most told m s w) (h1 : ∀ k, K k → K' k) (h2 : ∀ k, K' k → K k ∨ (k < w.heap.size ∧ k ≠ sb ∧ k ≠ rb ∧ m.ow ≠ some k ∧ m.op ≠ some k)) : StI sb rb K' v b p skip left most told m s w := by
  have hm := h.sm
  refine ⟨⟨hm.row, fun hk => ?_, fun k hk => ?_, hm.win, hm.wi, hm.pl, fun g hg => ⟨fun hk => ?_, (hm.nw g hg).2⟩, fun g hg => ⟨fun hk => ?_, (hm.np g hg).2⟩, hm.ls, fun e => ⟨(hm.cs e).1.mono h1, (hm.cs e).2.mono h1⟩, fun e => ⟨(hm.cf e).1.mono h1, (hm.cf e).2.mono h1⟩, hm.pu, hm.pd, hm.ol, hm.ml, hm.td⟩, ⟨h.rr.row, h.rr.sl.mono (fun g hg hk => hg (h1 g hk)), fun hk => ?_, h.rr.bl⟩, h.re, h.rw, h.rp, h.bl⟩
  · rcases h2 sb hk with e | e
    · exact hm.ks e
    · exact e.2.1 rfl
  · rcases h2 k hk with e | e
    · exact hm.lt k e
    · exact e.1
  · rcases h2 g hk with e | e
    · exact (hm.nw g hg).1 e
    · exact e.2.2.2.1 hg
  · rcases h2 g hk with e | e
    · exact (hm.np g hg).1 e
    · exact e.2.2.2.2 hg
  · rcases h2 rb hk with e | e
    · exact h.kr e
    · exact e.2.2.1 rfl
/-- Stored bytes, one behind the other. -/
theorem byte_ok (most : Nat) (s : Sx) (b : List By) (p : Nat) (hm : s.md = 1) (hp : p + 8 ≤ 8 * b.length) : takeR 8 (bt b p) = .ok (le b / 2 ^ p % 256, bt b (p + 8)) := by
  rw [← bt_rest]
  unfold takeR
  rw [if_neg (by rw [bt_n]; omega), bt_x]
theorem bytes_run (most : Nat) (b : List By) : ∀ (n p : Nat) (s : Sx), s.md = 1 → 1 ≤ n → n ≤ s.sto → p + 8 * n ≤ 8 * b.length →
    (n < s.sto → run most s (bt b p) = run most { s with out := s.out ++ lows (le b / 2 ^ p) n, sto := s.sto - n } (bt b (p + 8 * n))) ∧
    (n = s.sto → ∀ s' t', endB { s with sto := 0, out := s.out ++ lows (le b / 2 ^ p) n } (bt b (p + 8 * n)) = .ok (s', t') → run most s (bt b p) = run most s' t') := by
  intro n
  induction n with
  | zero => intro p s _ h; omega
  | succ n ih =>
    intro p s hm h1 h2 hp
    have hb : BitVec.ofNat 8 (le b / 2 ^ p % 256) = BitVec.ofNat 8 (le b / 2 ^ p) := by
      apply BitVec.eq_of_toNat_eq
      simp only [BitVec.toNat_ofNat]
      omega
    have hs : stepR most s (bt b p) = (if s.sto ≤ 1 then endB { s with sto := 0, out := s.out ++ [BitVec.ofNat 8 (le b / 2 ^ p)] } else retR { s with sto := s.sto - 1, out := s.out ++ [BitVec.ofNat 8 (le b / 2 ^ p)] }) (bt b (p + 8)) := by
      rw [stepR, if_neg (by omega), if_pos hm, byteR, bindR_eq (byte_ok most s b p hm (by omega)), hb]
    by_cases hn : n = 0
    · subst hn
      have hl : lows (le b / 2 ^ p) (0 + 1) = [BitVec.ofNat 8 (le b / 2 ^ p)] := rfl
      rw [hl]
      constructor
      · intro hlt
        rw [if_neg (by omega)] at hs
        rw [run_ok (by omega) hs]
      · intro he s' t' hE
        rw [if_pos (by omega)] at hs
        have hE' : endB { s with sto := 0, out := s.out ++ [BitVec.ofNat 8 (le b / 2 ^ p)] } (bt b (p + 8)) = .ok (s', t') := hE
        rw [hE'] at hs
        exact run_ok (by omega) hs
    · rw [if_neg (by omega)] at hs
      have hr := run_ok (by omega) hs
      obtain ⟨i1, i2⟩ := ih (p + 8) { s with sto := s.sto - 1, out := s.out ++ [BitVec.ofNat 8 (le b / 2 ^ p)] } hm (by omega) (by simp only; omega) (by omega)
      have hx : le b / 2 ^ (p + 8) = le b / 2 ^ p / 256 := by rw [Nat.pow_add, Nat.div_div_eq_div_mul]
      have hll : lows (le b / 2 ^ p) (n + 1) = BitVec.ofNat 8 (le b / 2 ^ p) :: lows (le b / 2 ^ (p + 8)) n := by rw [hx]; rfl
      constructor
      · intro hlt
        rw [hr, i1 (by simp only; omega), hll]
        simp only [List.append_assoc, List.singleton_append]
        rw [show s.sto - 1 - n = s.sto - (n + 1) by omega, show p + 8 + 8 * n = p + 8 * (n + 1) by omega]
      · intro he s' t' hE
        rw [hr]
        refine i2 (by simp only; omega) s' t' ?_
        rw [hll] at hE
        simp only [List.append_assoc, List.singleton_append]
        rw [show p + 8 + 8 * n = p + 8 * (n + 1) by omega]
        exact hE
/-- What a step comes to: so many steps of the document's, or its error. -/
def Pst (sb rb : Nat) (K : Nat → Prop) (v : Value) (b : List By) (p : Nat) (skip left : Int) (most told : Nat) (m : Mm) (s : Sx) (w : World) (e : Ending) (w' : World) : Prop :=
  (∃ y, stepR most s (bt b p) = .bad y ∧ e = gv y ∧ (∃ l', SmI sb K (.pointer (some ⟨rb, 0, none⟩)) skip left most told { m with l := l' } s w') ∧ Fr (fun k => ¬ K k) w w') ∨
  (∃ s' p' m' K' x, run most s (bt b p) = run most s' (bt b p') ∧ p < p' ∧ Bd most p' s' ∧ e = .returned x ∧ StI sb rb K' v b p' skip left most told m' s' w' ∧ (∀ k, K k → K' k) ∧ (∀ k, K' k → K k ∨ w.heap.size ≤ k) ∧ Fr (fun k => ¬ K k) w w')
/-- How the loop of stored bytes stands. -/
def SbI (sb rb : Nat) (K : Nat → Prop) (v : Value) (b : List By) (p' : Nat) (skip left : Int) (most told : Nat) (m : Mm) (s : Sx) (w : World) (L : List By) (x : Value) (I : Nat) (W : World) : Prop :=
  ∃ m' K', StI sb rb K' v b p' skip left most told m' { s with out := s.out ++ L.take I } W ∧ m'.l = m.l ∧ (∀ k, K k → K' k) ∧ (∀ k, K' k → K k ∨ w.heap.size ≤ k) ∧ Sl (fun k => ¬ K' k) x L W ∧ Fr (fun k => ¬ K k) w W
theorem SbI.step {p' : Nat} {L : List By} {x : Value} {I : Nat} {W : World} (h : SbI sb rb K v b p' skip left most told m s w L x I W) (hI : I < L.length) (hr : s.out.length + L.length ≤ most) (z : Int) (hz : z = (L[I]).toNat) :
    Calls Tryd.prog 66 #[.pointer (some ⟨sb, 0, none⟩), .int .u8 z] W fun e W' => (∃ r, e = .returned r) ∧ Hid (SbI sb rb K v b p' skip left most told m s w L x (I + 1) W') := by
  obtain ⟨m', K', h1, h2, h3, h4, h5, h6⟩ := h
  have hlt : (L.take I).length = I := by rw [List.length_take]; omega
  refine (put_any h1 L[I] z hz (by simp only [List.length_append, hlt]; omega)).mono ?_
  rintro e W' ⟨a1, ⟨m2, a2, a3, a4, a5, a6⟩, a7⟩
  refine ⟨a1, m2, K', ?_, a2.trans h2, h3, h4, h5.kept a7 (fun g hg => hg), ?_⟩
  · have e : ({ s with out := s.out ++ L.take I } : Sx).put L[I] = { s with out := s.out ++ L.take (I + 1) } := by
      unfold Sx.put
      simp only [List.append_assoc]
      rw [List.take_add_one, List.getElem?_eq_getElem hI]
      rfl
    rw [e] at a6
    exact a6
  · exact h6.then a7 (fun i hi => by
      by_cases hk : K i
      · exact absurd (h3 i hk) hi
      · exact .inl hk)
set_option maxHeartbeats 16000000 in
set_option maxRecDepth 100000 in
theorem storedBytes_any (h : StI sb rb K v b p skip left most told m s w) (hb : Bd most p s) (hm : s.md = 1) :
    Calls Tryd.prog 54 #[.pointer (some ⟨sb, 0, none⟩)] w (Pst sb rb K v b p skip left most told m s w) := by
  obtain ⟨P, hP⟩ : ∃ P : Ending → World → Prop, P = Pst sb rb K v b p skip left most told m s w := ⟨_, rfl⟩
  rw [← hP]
  obtain ⟨hs1, hs2, hs3, hp8⟩ := hb.2 hm
  have hpl := h.bl
  have hbl := h.rr.bl
  have hol := h.sm.ol
  have hml := h.sm.ml
  obtain ⟨q, hq⟩ : ∃ q, q = (8 * b.length - p) / 8 := ⟨_, rfl⟩
  obtain ⟨n, hn⟩ : ∃ n, n = min s.sto q := ⟨_, rfl⟩
  have HST : Hid (StI sb rb K v b p skip left most told m s w) := h
  have KEY : Hid (∀ V, Nw w V → V.cell? ⟨sb, 0, none⟩ = some (.pointer (some ⟨rb, 0, none⟩)) ∧ V.cell? ⟨sb, 9, none⟩ = some (.int .i64 s.sto)) := fun V hV => ⟨(sc0 (h.nw hV).sm.row).1, (sc9 (h.nw hV).sm.row).1⟩
  have HL : Hid (∀ V, Nw w V → Calls Tryd.prog 43 #[.pointer (some ⟨rb, 0, none⟩)] V fun e w' => e = .returned (.int .i64 (8 * b.length - p : Nat)) ∧ Hid (Nw w w')) := fun V hV => (left_any (h.nw hV).rr h.bl).mono (fun e w' ⟨a1, a2⟩ => ⟨a1, hV.trans a2⟩)
  obtain ⟨c0, c9⟩ := KEY.out w (Fr.refl _ _)
  have hN0 : Nw w w := Fr.refl _ _
  have hqi : ((8 * b.length - p : Nat) : Int) / 8 = (q : Int) := by omega
  have hmin : min (s.sto : Int) (q : Int) = (n : Int) := by omega
  have hnl : n ≤ 65535 := by omega
  have HQ : Hid (IntKind.i64.wrap (q : Int) = (q : Int)) := by
    show _ = _
    rw [IntKind.wrap_i64]; omega
  have hq3 : q ≤ 200000000000000 := by omega
  have hq2 : 8 * b.length - p ≤ 1600000000000000 := by omega
  have HP : Hid (P = Pst sb rb K v b p skip left most told m s w) := hP
  have HB : Hid (n = min s.sto q ∧ q = (8 * b.length - p) / 8) := ⟨hn, hq⟩
  clear hP h hb hn hq
  have HX : Hid (1 ≤ s.sto ∧ s.sto ≤ most - s.out.length ∧ s.sto ≤ 65535 ∧ p % 8 = 0 ∧ p ≤ 8 * b.length ∧ s.out.length ≤ most) := ⟨hs1, hs2, hs3, hp8, hpl, hol⟩
  clear hs1 hs2 hp8 hpl hol hbl
  generalize hLL : 8 * b.length - p = LL at *
  have HLL : Hid (8 * b.length - p = LL) := hLL
  clear hLL
  go_enter Tryd.func54, Tryd.ntmps54
  go_wp2_with fail
  go_cut [2] (fun nn wx => nn = .int .i64 n ∧ Hid (Nw w wx))
  case first =>
    clear HB HP HX HST HLL
    go_region_held3 (fun w' => w'.cell? ⟨sb, 0, none⟩ = some (.pointer (some ⟨rb, 0, none⟩)) ∧ w'.cell? ⟨sb, 9, none⟩ = some (.int .i64 s.sto))
        (first | exact KEY.out _ (by assumption) | exact KEY.out _ (Fr.refl _ _).drew | exact KEY.out _ (Fr.refl _ _))
        (first
          | (go_at_call 43; with_reducible refine (HL.out _ ?_).mono ?_; (first | assumption | exact (Fr.refl _ _).drew | exact Fr.refl _ _ | exact (Fr.refl _ _).drewN _); rintro e w2 ⟨rfl, H2⟩; have hN2 := H2.out))
    all_goals go_wp2_with fail
    all_goals go_meet
    all_goals exact ⟨by rw [HQ.out, hmin], hN2⟩
  case rest =>
    obtain ⟨rfl, HN⟩ := hcut
    clear KEY HL c0 c9 hN0 hqi hmin hq2
    have hST := HST.out.nw HN.out
    by_cases hn0 : n = 0
    · have HF : Hid (P (gv 4) wc) := by
        show P _ _
        rw [HP.out]
        refine .inl ⟨4, ?_, rfl, ⟨m.l, hST.sm⟩, HN.out.any⟩
        obtain ⟨x1, x2, x3, x4, x5, x6⟩ := HX.out
        obtain ⟨y1, y2⟩ := HB.out
        have hlt : 8 * b.length - p < 8 := by
          have := HLL.out
          omega
        rw [stepR, if_neg (by omega), if_pos hm, byteR]
        apply bindR_bad
        unfold takeR
        rw [if_pos (by rw [bt_n]; exact hlt)]
      have HG : Hid (∀ V, Calls Tryd.prog 64 #[.int .i64 4] V fun e w' => e = gv 4 ∧ w' = V) := fun V => giveUp_any 4 V
      subst hn0
      clear HB HP HX HST HLL HN hST
      go_wp2_with (first | (go_at_call 64; (with_reducible refine (HG.out _).mono ?_); rintro e w4 ⟨rfl, rfl⟩))
      exact ⟨rfl, HF.out⟩
    · have hn1 : ((n : Int) == 0) = false := by simp; omega
      obtain ⟨x1, x2, x3, x4, x5, x6⟩ := HX.out
      obtain ⟨y1, y2⟩ := HB.out
      have hll := HLL.out
      obtain ⟨L, hL⟩ : ∃ L, L = lows (le b / 2 ^ p) n := ⟨_, rfl⟩
      have hLl : L.length = n := by rw [hL, lows_length]
      have hup : up8 p = p := by unfold up8; omega
      have hbF : bytesF (8 * b.length) (le b) p n = (L, 0, p + 8 * n) := by
        rw [bytesF, if_neg (by omega), hup, if_neg (by omega), Int.toNat_natCast, ← hL]
      have hBy := bbytes_any hST.rr hST.bl n (by omega)
      rw [hbF] at hBy
      have HBy : Hid (Calls Tryd.prog 65 #[.pointer (some ⟨rb, 0, none⟩), .int .i64 n] wc fun e w2 => ∃ a c, e = .returned (.tuple #[.slice a n c, .int .i64 0]) ∧ n ≤ c ∧ c < 9223372036854775808 ∧ Hid (SbI sb rb K v b (p + 8 * n) skip left most told m s w L (.slice a n c) 0 w2)) := hBy.mono (fun e w2 hh => by
        obtain ⟨x, a1, a2, a3, a4⟩ := hh
        obtain ⟨a, c, e1, e2, e3⟩ := a2.sl.form
        subst e1
        simp only at a2 e2 a1
        rw [hLl] at a1 a2 e2
        refine ⟨a, c, a1, e2, e3, ?_⟩
        have hS2 := hST.go (hST.lt.go a3 a4 (by simp only; omega)) a4
        rcases a2 with ⟨_, b2⟩ | ⟨g, b1, b2⟩
        · rw [b2] at hLl; simp at hLl; omega
        · have hgl := b2.lt
          have hgr := hST.rr.lt
          have hgs := hST.sm.lts
          have hM : StI sb rb (fun k => K k ∨ k = g) v b (p + 8 * n) skip left most told m s w2 := hS2.more (fun k hk => .inl hk) (fun k hk => by
            rcases hk with e | e
            · exact .inl e
            · subst e
              exact .inr ⟨hgl, by omega, by omega, fun e => b1 (hST.sm.win.lt k e), fun e => b1 (hST.sm.pl.lt k e)⟩)
          refine ⟨m, fun k => K k ∨ k = g, ?_, rfl, fun k hk => .inl hk, fun k hk => ?_, .inr ⟨g, fun hx => hx (.inr rfl), b2.slb⟩, HN.out.any.trans (hST.frr a4)⟩
          · simp only [List.take_zero, List.append_nil]
            exact hM
          · rcases hk with e | e
            · exact .inl e
            · have := HN.out.size
              exact .inr (by omega))
      have c0 := (sc0 hST.sm.row).1
      have hLr : s.out.length + L.length ≤ most := by omega
      -- the loop's end
      have HEND : Hid (∀ x W, SbI sb rb K v b (p + 8 * n) skip left most told m s w L x n W → W.cell? ⟨sb, 9, none⟩ = some (.int .i64 s.sto) ∧ W.frozen? ⟨sb, 9, none⟩ = false ∧ (W.setCell ⟨sb, 9, none⟩ (.int .i64 (s.sto - n : Nat))).cell? ⟨sb, 9, none⟩ = some (.int .i64 (s.sto - n : Nat)) ∧ (n < s.sto → ∀ r, P (.returned r) (W.setCell ⟨sb, 9, none⟩ (.int .i64 (s.sto - n : Nat)))) ∧ (n = s.sto → Calls Tryd.prog 67 #[.pointer (some ⟨sb, 0, none⟩)] (W.setCell ⟨sb, 9, none⟩ (.int .i64 (s.sto - n : Nat))) fun e w5 => (∃ r, e = .returned r) ∧ Hid (∀ r, P (.returned r) w5))) := by
        rintro x W ⟨m', K', h1, h2, h3, h4, h5, h6⟩
        rw [← hLl, List.take_length] at h1
        rw [hLl] at h1
        have hls : m'.l = s.lst := h1.sm.ls (by simp only; omega)
        obtain ⟨q1, q2⟩ := h1.sm.set 9 (.int .i64 (s.sto - n : Nat)) (.pointer (some ⟨rb, 0, none⟩)) skip left m' { s with out := s.out ++ L, sto := s.sto - n } rfl rfl rfl rfl rfl rfl rfl h1.sm.ls h1.sm.cs h1.sm.cf h1.sm.pu h1.sm.pd
        have h7 := h1.sm' q1 q2 rfl rfl
        have f7 : Fr (fun k => ¬ K k) w (W.setCell ⟨sb, 9, none⟩ (.int .i64 (s.sto - n : Nat))) := h6.then (h1.frs q2) (fun i hi => .inl (fun hk => hi (h3 i hk)))
        have hrun := bytes_run most b n p s hm (by omega) (by omega) (by omega)
        rw [← hL] at hrun
        refine ⟨(sc9 h1.sm.row).1, (sc9 h1.sm.row).2, (sc9 h7.sm.row).1, fun hlt r => ?_, fun he => ?_⟩
        · rw [HP.out]
          refine .inr ⟨_, _, m', K', r, hrun.1 hlt, by omega, ⟨by simp only; omega, fun _ => ⟨by simp only; omega, ?_, by simp only; omega, by omega⟩⟩, rfl, h7, h3, h4, f7⟩
          simp only [List.length_append]
          omega
        · refine (endBlock_any h7 hls).mono (fun e w5 ⟨a1, ⟨s', p', m2, a2, a3⟩, a4⟩ => ⟨a1, fun r => ?_⟩)
          rw [HP.out]
          have he0 : ({ s with out := s.out ++ L, sto := s.sto - n } : Sx) = { s with sto := 0, out := s.out ++ L } := by
            rw [he]; simp
          rw [he0] at a2
          have hp' : p + 8 * n ≤ p' ∧ (s'.md = 0 ∨ s'.md = 3) := by
            have a2' := a2
            unfold endB at a2'
            by_cases hlst : s.lst = true
            · rw [if_pos hlst] at a2'
              obtain ⟨_, t1, g1, g2⟩ := bindR_ok a2'
              obtain ⟨z1, z2⟩ := alignR_bt b (p + 8 * n) h7.bl
              rw [z1] at g1
              injection g1 with g1
              injection g1 with _ g1
              injection g2 with g2
              injection g2 with g2 g3
              rw [← g1] at g3
              have h8 : up8 (p + 8 * n) = p + 8 * n := by unfold up8; omega
              rw [h8] at g3
              have : (bt b (p + 8 * n)).n = (bt b p').n := by rw [g3]
              rw [bt_n, bt_n] at this
              have hb1 := a3.bl
              have hb2 := h7.bl
              exact ⟨by omega, .inr (by rw [← g2])⟩
            · rw [if_neg hlst] at a2'
              injection a2' with a2'
              injection a2' with g2 g3
              have : (bt b (p + 8 * n)).n = (bt b p').n := by rw [g3]
              rw [bt_n, bt_n] at this
              have hb1 := a3.bl
              have hb2 := h7.bl
              exact ⟨by omega, .inl (by rw [← g2])⟩
          refine .inr ⟨s', p', m2, K', r, hrun.2 he s' _ a2, by omega, ⟨by omega, fun e => by omega⟩, rfl, a3, h3, h4, f7.then a4 (fun i hi => .inl (fun hk => hi (h3 i hk)))⟩
      have hsn : (s.sto : Int) - (n : Int) = ((s.sto - n : Nat) : Int) := by omega
      have hnsto : n ≤ s.sto := by omega
      have HSTP : Hid (∀ x I W, SbI sb rb K v b (p + 8 * n) skip left most told m s w L x I W → I < n → ∃ (y : Nat), y ≤ 255 ∧ (∀ a c, x = .slice a n c → ∃ g o, a = some ⟨g, o, none⟩ ∧ W.cell? ⟨g, o + I, none⟩ = some (.int .u8 y)) ∧ Hid (Calls Tryd.prog 66 #[.pointer (some ⟨sb, 0, none⟩), .int .u8 y] W fun e W' => (∃ r, e = .returned r) ∧ Hid (SbI sb rb K v b (p + 8 * n) skip left most told m s w L x (I + 1) W'))) := fun x I W hS hI => by
        have hIL : I < L.length := by omega
        refine ⟨(L[I]).toNat, by have := (L[I]).isLt; omega, fun a c hx => ?_, hS.step hIL hLr _ rfl⟩
        obtain ⟨m', K', h1, h2, h3, h4, h5, h6⟩ := hS
        rcases h5 with ⟨a', e1, e2⟩ | ⟨g, hg, o, c', e1, e2, e3, e4⟩
        · rw [e2] at hIL; simp at hIL
        · rw [hx] at e1
          injection e1 with e1
          exact ⟨g, o, e1, e4.at I _ (List.getElem?_eq_getElem hIL)⟩
      clear HB HP HX HST HLL HN hST y1 y2 hll hbF hBy hL x1 x2 x4 x5 x6 hn0 hLr hup hLl
      go_wp2_with (first | (go_at_call 65; (with_reducible refine HBy.out.mono ?_); rintro e w2 ⟨a, c, rfl, hca, hcb, H2⟩))
      clear HBy c0
      go_loopg [32] n (fun kx i wr => ∃ I : Nat, I ≤ n ∧ n - I ≤ kx ∧ i = .int .i64 I ∧ Hid (SbI sb rb K v b (p + 8 * n) skip left most told m s w L (.slice a n c) I wr))
      case atStart => exact ⟨0, by omega, by omega, rfl, H2⟩
      case round =>
        obtain ⟨I, hI, hkx, rfl, HI⟩ := hrel
        clear H2
        by_cases hlt : I < n
        · obtain ⟨y, hy, hy2, HY⟩ := HSTP.out _ I wr HI.out hlt
          obtain ⟨g, o, rfl, hcell⟩ := hy2 a c rfl
          have hz : (I : Int) < (n : Int) := by omega
          clear HSTP HEND HI hy2
          go_wp2_with (first | (go_at_call 66; (with_reducible refine HY.out.mono ?_); rintro e w3 ⟨⟨r, rfl⟩, H3⟩))
          go_roundg (n - (I + 1))
          all_goals (first | omega | exact ⟨I + 1, by omega, by omega, by first | rfl | (congr 1), H3⟩)
        · obtain rfl : I = n := by omega
          have hz : ¬ (I : Int) < (I : Int) := by omega
          obtain ⟨g1, g2, g3, g4, g5⟩ := HEND.out _ wr HI.out
          by_cases he : I < s.sto
          · have HF : Hid (∀ r, P (.returned r) (wr.setCell ⟨sb, 9, none⟩ (.int .i64 (s.sto - I : Nat)))) := g4 he
            have hz2 : (((s.sto - I : Nat) : Int) == 0) = false := by simp; omega
            have hb9 : s.sto - I ≤ 65535 := by omega
            clear g4 g5 HSTP HEND HI he
            generalize s.sto - I = d at *
            generalize s.sto = sto at *
            go_wp2_with fail
            go_end0
            exact HF.out _
          · have HE : Hid (Calls Tryd.prog 67 #[.pointer (some ⟨sb, 0, none⟩)] (wr.setCell ⟨sb, 9, none⟩ (.int .i64 (s.sto - I : Nat))) fun e w5 => (∃ r, e = .returned r) ∧ Hid (∀ r, P (.returned r) w5)) := g5 (by omega)
            have hz2 : (((s.sto - I : Nat) : Int) == 0) = true := by simp; omega
            have hb9 : s.sto - I ≤ 65535 := by omega
            clear g4 g5 HSTP HEND HI he
            generalize s.sto - I = d at *
            generalize s.sto = sto at *
            go_wp2_with (first | (go_at_call 67; (with_reducible refine HE.out.mono ?_); rintro e w5 ⟨⟨r, rfl⟩, HF⟩))
            go_end0
            exact HF.out _
end Go.Proofs.YtincbbnppcpfpaaDoor
