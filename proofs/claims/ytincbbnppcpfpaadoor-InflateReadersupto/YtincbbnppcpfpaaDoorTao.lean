import Derived.Test.YtincbbnppcpfpaaDoorTan
namespace Go.Proofs.YtincbbnppcpfpaaDoor
open Go.RowKit
set_option linter.unusedVariables false
variable {cb gw gs : Nat} {ls : List Nat} {ws : List (Nat × Nat)} {ss : List Int} {w : World}
theorem CodeI.range (h : CodeI cb gw gs ls ws ss w) : w.rangeAt cb 2 (rowC (fr ls)).toList := fun j v hv => by
  have hr := h.c.row
  refine (row_cell hr (2 + j) v ?_).1
  rw [codeC, Array.getElem?_append_right (by simp)]
  simpa using hv
set_option maxHeartbeats 8000000 in
theorem whole_any (h : CodeI cb gw gs ls ws ss w) (hk : Cod ls) : Calls Tryd.prog 89 #[.pointer (some ⟨cb, 0, none⟩)] w fun e w' => e = .returned (.bool (decide (room ls = 32768))) ∧ Nw w w' := by
  obtain ⟨P, hP⟩ : ∃ P : Ending → World → Prop, P = fun e w' => e = .returned (.bool (decide (room ls = 32768))) ∧ Nw w w' := ⟨_, rfl⟩
  rw [← hP]
  have hfit := hk.fit
  have HC : Hid (Calls Tryd.prog 96 #[.agg (rowC (fr ls)).toList.toArray] w fun e w' => e = .returned (.int .i64 (room ls)) ∧ Hid (P (.returned (.bool (decide (room ls = 32768)))) w')) := by
    rw [show (rowC (fr ls)).toList.toArray = rowC (fr ls) by simp]
    refine (room_any w (fr ls) (by show room ls ≤ _; omega)).mono ?_
    rintro e w' ⟨rfl, hN⟩
    refine ⟨rfl, ?_⟩
    show P _ _
    rw [hP]; exact ⟨rfl, hN⟩
  have hr := h.range
  have hsz : (Tryd.prog.info? 125).map (·.size) = some (rowC (fr ls)).toList.length := by rw [size90]; simp [rowC_size]
  have hd : ((room ls : Int) == 32768) = decide (room ls = 32768) := by
    by_cases e : room ls = 32768
    · simp [e]
    · rw [decide_eq_false e]; simp; omega
  clear hP h hk
  generalize (rowC (fr ls)).toList = AL at *
  generalize decide (room ls = 32768) = B at *
  generalize room ls = R at *
  go_enter Tryd.func89, Tryd.ntmps89
  go_wp2_with (first | (refine wpList_load_mid rfl 125 _ rfl cb 2 (by first | rfl | simp [Act.eval]) AL _ hr Tryd.underlying125 rfl hsz ?_) | (go_at_call 96; (with_reducible refine HC.out.mono ?_); rintro e w4 ⟨rfl, H4⟩))
  exact H4.out
end Go.Proofs.YtincbbnppcpfpaaDoor

namespace Go.Proofs.YtincbbnppcpfpaaDoor
open Go.RowKit
set_option linter.unusedVariables false
variable {cb gw gs : Nat} {ls : List Nat} {ws : List (Nat × Nat)} {ss : List Int} {w : World}
/-- What Word answers: the word, and the error. -/
def wordA (ls : List Nat) (z : Int) : (Nat × Nat) × Nat := if z < 0 ∨ (ls.length : Int) ≤ z then ((0, 0), 1) else if ls.getD z.toNat 0 = 0 then ((0, 0), 52) else (wdP ls z.toNat, 0)
def wordV (a : (Nat × Nat) × Nat) : Value := .tuple #[.agg #[.int .u32 a.1.1, .int .i64 a.1.2], .int .i64 a.2]
theorem CodeI.word (h : CodeI cb gw gs ls ws ss w) (i : Nat) (hi : i < ls.length) : w.cell? ⟨gw, i * 2, none⟩ = some (.int .u32 (wdP ls i).1) ∧ w.cell? ⟨gw, i * 2 + 1, none⟩ = some (.int .i64 (wdP ls i).2) := by
  have := h.c.word i _ (h.W i hi)
  exact ⟨this.1, this.2.1⟩
theorem wdP_zero (i : Nat) : ((wdP ls i).2 = 0) ↔ ls.getD i 0 = 0 := by
  unfold wdP
  split
  · rename_i e; rw [e]
  · rfl
end Go.Proofs.YtincbbnppcpfpaaDoor

namespace Go.Proofs.YtincbbnppcpfpaaDoor
open Go.RowKit
set_option linter.unusedVariables false
variable {cb gw gs : Nat} {ls : List Nat} {ws : List (Nat × Nat)} {ss : List Int} {w : World} {K : Nat → Prop} {rb : Nat} {v : Value} {b : List By} {p : Nat}
/-- What Read does. -/
def ReadA (cb gw gs : Nat) (ls : List Nat) (K : Nat → Prop) (rb : Nat) (v : Value) (b : List By) (p : Nat) (w : World) (e : Ending) (w' : World) : Prop :=
  (∃ i, Hits ls (rev 15 (le b / 2 ^ p)) i ∧ ls.getD i 0 ≤ 8 * b.length - p ∧ e = .returned (.tuple #[.int .i64 i, .int .i64 0]) ∧ Rr 86 K rb v b (p + ls.getD i 0) w' ∧ Fr (fun k => k = rb) w w') ∨
  (∃ i, Hits ls (rev 15 (le b / 2 ^ p)) i ∧ 8 * b.length - p < ls.getD i 0 ∧ e = .returned (.tuple #[.int .i64 0, .int .i64 50]) ∧ Nw w w') ∨
  (Past ls (rev 15 (le b / 2 ^ p)) 16 ∧ e = .returned (.tuple #[.int .i64 0, .int .i64 52]) ∧ Nw w w')
theorem CodeI.rows (h : CodeI cb gw gs ls ws ss w) (n : Nat) (hn : n < 16) : w.cell? ⟨cb, 2 + n * 3, none⟩ = some (.int .i64 (ct ls n)) ∧ w.cell? ⟨cb, 2 + n * 3 + 1, none⟩ = some (.int .i64 (nm ls n)) ∧ w.cell? ⟨cb, 2 + n * 3 + 2, none⟩ = some (.int .i64 (pc ls n)) :=
  ⟨h.c.rows n 0 hn (by decide), h.c.rows n 1 hn (by decide), h.c.rows n 2 hn (by decide)⟩
set_option maxHeartbeats 16000000 in
set_option maxRecDepth 100000 in
theorem read_any (h : CodeI cb gw gs ls ws ss w) (hk : Cod ls) (hr : Rr 86 K rb v b p w) (hp : p ≤ 8 * b.length) (h1 : rb ≠ cb) (h2 : rb ≠ gw) (h3 : rb ≠ gs) : Calls Tryd.prog 81 #[.pointer (some ⟨cb, 0, none⟩), .pointer (some ⟨rb, 0, none⟩)] w (ReadA cb gw gs ls K rb v b p w) := by
  obtain ⟨P, hP⟩ : ∃ P : Ending → World → Prop, P = ReadA cb gw gs ls K rb v b p w := ⟨_, rfl⟩
  rw [← hP]
  have hX : rev 15 (le b / 2 ^ p % 2 ^ 15) = rev 15 (le b / 2 ^ p) := rev_mod 15 15 _ (Nat.le_refl _)
  have hXl := rev_lt 15 (le b / 2 ^ p)
  have hbl := hr.bl
  have HP : Hid (P = ReadA cb gw gs ls K rb v b p w) := hP
  have HA : Hid (∀ V, Nw w V → Calls Tryd.prog 44 #[.pointer (some ⟨rb, 0, none⟩), .int .i64 15] V fun e w' => e = .returned (.int .u32 (le b / 2 ^ p % 2 ^ 15 : Nat)) ∧ Hid (Nw w w')) := fun V hV => by
    refine (bahead_any (hr.nw hV) hp 15 (by decide)).mono ?_
    rintro e w1 ⟨rfl, k⟩
    exact ⟨rfl, hV.trans k⟩
  have HT : Hid (∀ V, Calls Tryd.prog 91 #[.int .u32 (le b / 2 ^ p % 2 ^ 15 : Nat), .int .i64 15] V fun e w' => e = .returned (.int .u32 (rev 15 (le b / 2 ^ p))) ∧ w' = V) := fun V => by
    have := turned_any (le b / 2 ^ p % 2 ^ 15) 15 (by have := Nat.mod_lt (le b / 2 ^ p) (show 0 < 2 ^ 15 by decide); omega) (by decide) V
    rw [hX] at this
    exact this
  have HLf : Hid (∀ V, Nw w V → Calls Tryd.prog 43 #[.pointer (some ⟨rb, 0, none⟩)] V fun e w' => e = .returned (.int .i64 (8 * b.length - p : Nat)) ∧ Hid (Nw w w') ∧ w'.cell? ⟨rb, 1, none⟩ = some (.int .i64 p) ∧ w'.frozen? ⟨rb, 1, none⟩ = false) := fun V hV => by
    refine (left_any (hr.nw hV) hp).mono ?_
    rintro e w1 ⟨rfl, k⟩
    have := (hr.nw (hV.trans k)).cells
    exact ⟨rfl, hV.trans k, this.2.1, this.2.2⟩
  have HC : Hid (∀ V n, Nw w V → n < 16 → V.cell? ⟨cb, 2 + n * 3, none⟩ = some (.int .i64 (ct ls n)) ∧ V.cell? ⟨cb, 2 + n * 3 + 1, none⟩ = some (.int .i64 (nm ls n))) := fun V n hV hn => by
    have := (h.nw hV).rows n hn
    exact ⟨this.1, this.2.1⟩
  have HG : Hid (∀ V n i, Fr (fun k => k = rb) w V → n < 16 → i < ls.length → ls.getD i 0 ≠ 0 → V.cell? ⟨cb, 1, none⟩ = some (.slice (some ⟨gs, 0, none⟩) (nwd ls) (nwd ls)) ∧ V.cell? ⟨cb, 2 + n * 3 + 2, none⟩ = some (.int .i64 (pc ls n)) ∧ V.cell? ⟨gs, ps ls i, none⟩ = some (.int .i64 (i : Nat)) ∧ ps ls i < nwd ls) := fun V n i hV hn hi h0 => by
    have hc := h.kept hV (fun e => h1 e.symm) (fun e => h2 e.symm) (fun e => h3 e.symm)
    exact ⟨hc.c.heads.2, (hc.rows n hn).2.2, (hc.c.sym _ _ (hc.S i hi h0)).1, hk.ps_lt i hi h0⟩
  have HN0 : Hid (Nw w w) := Fr.refl _ _
  have HR : Hid (∀ V n (z : Int), Nw w V → z = ((p + n : Nat) : Int) → Rr 86 K rb v b (p + n) (V.setCell ⟨rb, 1, none⟩ (.int .i64 z)) ∧ Fr (fun k => k = rb) w (V.setCell ⟨rb, 1, none⟩ (.int .i64 z))) := fun V n z hV hz => by
    have := (hr.nw hV).go (p + n) z hz
    exact ⟨this.1, hV.any.trans this.2⟩
  have hnw : nwd ls ≤ 5120 := by
    have h1 := pc_bound ls hk.len 16
    exact h1
  have HK : Hid (Cod ls) := hk
  have HB1 : Hid (∀ n, n ≤ 15 → nm ls n + ct ls n ≤ 2 ^ n ∧ pc ls n ≤ 5120) := fun n hn => ⟨nm_le ls n hn hk.fit, by have := pc_bound ls hk.len n; omega⟩
  clear hP h hr hk h1 h2 h3 hX
  obtain ⟨X, hXX⟩ : ∃ X, X = rev 15 (le b / 2 ^ p) := ⟨_, rfl⟩
  unfold ReadA at HP
  rw [← hXX] at hXl HT HP
  clear hXX
  have hXl' : X < 32768 := hXl
  obtain ⟨Lf, hLf⟩ : ∃ Lf, Lf = 8 * b.length - p := ⟨_, rfl⟩
  have hLf2 : Lf ≤ 1600000000000000 := by omega
  have hp2 : p ≤ 1600000000000000 := by omega
  rw [← hLf] at HP HLf
  clear hLf hXl hp hbl
  generalize le b / 2 ^ p % 2 ^ 15 = Y at *
  generalize hM : nwd ls = M at *
  go_enter Tryd.func81, Tryd.ntmps81
  go_wp2_with (first | (go_at_call 44; (with_reducible refine (HA.out _ HN0.out).mono ?_); rintro e w1 ⟨rfl, H1⟩) | (go_at_call 91; (with_reducible refine (HT.out _).mono ?_); rintro e w2 ⟨rfl, rfl⟩))
  clear HA HT
  go_loopg [7] 16 (fun kx i wr => ∃ (N : Nat), 1 ≤ N ∧ N ≤ 16 ∧ 16 - N ≤ kx ∧ i = .int .i64 N ∧ Hid (Past ls X N) ∧ Hid (Nw w wr))
  case atStart => exact ⟨1, by omega, by omega, by omega, rfl, Past.start ls X, H1⟩
  case round =>
    obtain ⟨N, hN1, hN2, hkx, rfl, HI, HW⟩ := hrel
    by_cases hlt : N ≤ 15
    · obtain ⟨c0, c1⟩ := HC.out wr N HW.out (by omega)
      have hge := HI.out.ge hN1 hlt
      obtain ⟨hb1, hb2⟩ := HB1.out N hlt
      have hpw : (2 : Nat) ^ N ≤ 2 ^ 15 := Nat.pow_le_pow_right (by decide) hlt
      obtain ⟨k, hk⟩ : ∃ k, k = 15 - N := ⟨_, rfl⟩
      have hki : (15 : Int) - (N : Int) = (k : Int) := by omega
      obtain ⟨q, hq⟩ : ∃ q, q = X / 2 ^ k := ⟨_, rfl⟩
      have hqi : (X : Int) / 2 ^ k = (q : Int) := by rw [hq]; push_cast; rfl
      have hql : q < 32768 := by rw [hq]; exact Nat.lt_of_le_of_lt (Nat.div_le_self _ _) hXl'
      rw [← hk, ← hq] at hge
      obtain ⟨d, hd⟩ : ∃ d, d = q - nm ls N := ⟨_, rfl⟩
      have hdi : (q : Int) - (nm ls N : Int) = (d : Int) := by omega
      have hdl : d < 32768 := by omega
      have hNl : (N : Int) ≤ 15 := by omega
      have hk15 : k ≤ 15 := by omega
      have hcl : ct ls N ≤ 32768 := by omega
      by_cases hc : ct ls N ≤ d
      · have HN : Hid (Past ls X (N + 1)) := HI.out.next (by rw [← hk, ← hq]; omega)
        have hci : (ct ls N : Int) ≤ (d : Int) := by omega
        clear HI HG HR HLf HP HK HC HB1 hq hk
        generalize ct ls N = C at *
        generalize nm ls N = A at *
        go_wp2_with fail
        go_quiet (fail)
        go_wp2_with fail
        go_roundg (16 - (N + 1))
        case measure => omega
        case rel => exact ⟨N + 1, by omega, by omega, by omega, by first | rfl | (congr 1), HN, HW.out.drewN _⟩
      · obtain ⟨i, hhi, hin, hpi⟩ := HI.out.found hN1 hlt (by rw [← hk, ← hq]; omega)
        rw [← hk, ← hq, ← hd] at hpi
        have hci : ¬ (ct ls N : Int) ≤ (d : Int) := by omega
        have hgi : ls.getD i 0 ≠ 0 := by omega
        by_cases hf : Lf < N
        · have HF : Hid (∀ V, Nw w V → P (.returned (.tuple #[.int .i64 0, .int .i64 50])) V) := fun V hV => by
            rw [HP.out]
            exact .inr (.inl ⟨i, hhi, by omega, rfl, hV⟩)
          have hfi : (Lf : Int) < (N : Int) := by omega
          have HDR : Hid (∀ n, Nw w (wr.drewN n)) := fun n => HW.out.drewN n
          clear HI HG HR HP HK HC HB1 hq hk hhi hpi hin hgi hM HN0 H1
          generalize ct ls N = C at *
          generalize nm ls N = A at *
          go_wp2_with fail
          go_quiet (fail)
          go_wp2_with (first | (go_at_call 43; (with_reducible refine (HLf.out _ (HDR.out _)).mono ?_); rintro e w3 ⟨rfl, H3, x1, x2⟩))
          exact HF.out _ H3.out
        · have hfi : ¬ (Lf : Int) < (N : Int) := by omega
          have HF : Hid (∀ V, Rr 86 K rb v b (p + N) V → Fr (fun k => k = rb) w V → P (.returned (.tuple #[.int .i64 i, .int .i64 0])) V) := fun V h1 h2 => by
            rw [HP.out]
            exact .inl ⟨i, hhi, by omega, rfl, by rw [hin]; exact h1, h2⟩
          have HDR : Hid (∀ n, Nw w (wr.drewN n)) := fun n => HW.out.drewN n
          have HG2 : Hid (∀ V, Fr (fun k => k = rb) w V → V.cell? ⟨cb, 1, none⟩ = some (.slice (some ⟨gs, 0, none⟩) M M) ∧ V.cell? ⟨cb, 2 + N * 3 + 2, none⟩ = some (.int .i64 (pc ls N)) ∧ V.cell? ⟨gs, pc ls N + d, none⟩ = some (.int .i64 (i : Nat)) ∧ pc ls N + d < M) := fun V hV => by
            have := HG.out V N i hV (by omega) hhi.1 hgi
            rw [hpi] at this
            exact this
          obtain ⟨pn, hpn⟩ : ∃ pn, pn = p + N := ⟨_, rfl⟩
          have hadd : (p : Int) + (N : Int) = (pn : Int) := by omega
          have hpl : pn ≤ 1600000000000015 := by omega
          have HR2 : Hid (∀ V, Nw w V → Rr 86 K rb v b (p + N) (V.setCell ⟨rb, 1, none⟩ (.int .i64 pn)) ∧ Fr (fun k => k = rb) w (V.setCell ⟨rb, 1, none⟩ (.int .i64 pn))) := fun V hV => HR.out V N _ hV (by omega)
          clear HI HG HP HK HC HB1 HR hq hk hhi hpi hin hgi hM HN0 H1 hd hpn
          generalize ct ls N = C at *
          generalize nm ls N = A at *
          generalize pc ls N = B at *
          go_wp2_with fail
          go_quiet (fail)
          go_upto_region 10 with (first | (go_at_call 43; (with_reducible refine (HLf.out _ (HDR.out _)).mono ?_); rintro e w3 ⟨rfl, H3, x1, x2⟩))
          obtain ⟨r1, r2⟩ := HR2.out w3 H3.out
          obtain ⟨g1, g2, g3, g4⟩ := HG2.out _ r2
          have r1' : Hid (Rr 86 K rb v b (p + N) (w3.setCell ⟨rb, 1, none⟩ (.int .i64 pn))) := r1
          have r2' : Hid (Fr (fun k => k = rb) w (w3.setCell ⟨rb, 1, none⟩ (.int .i64 pn))) := r2
          clear r1 r2
          generalize w3.setCell ⟨rb, 1, none⟩ (.int .i64 pn) = w4 at *
          go_wp2_with fail
          go_quiet (fail)
          go_wp2_with fail
          exact HF.out _ (r1'.out.nw ((Fr.refl _ _).drewN _)) (r2'.out.drewN _)
    · have HF : Hid (∀ V, Nw w V → P (.returned (.tuple #[.int .i64 0, .int .i64 52])) V) := fun V hV => by
        rw [HP.out]
        obtain rfl : N = 16 := by omega
        exact .inr (.inr ⟨HI.out, rfl, hV⟩)
      have hNl : ¬ (N : Int) ≤ 15 := by omega
      clear HI HG HR HP HK HC HB1 hM HN0 H1
      go_wp2_with fail
      exact HF.out _ HW.out
end Go.Proofs.YtincbbnppcpfpaaDoor

namespace Go.Proofs.YtincbbnppcpfpaaDoor
open Go.RowKit
set_option linter.unusedVariables false
theorem cod_1 : Cod [1] := ⟨fun i => by rcases i with _ | i <;> simp, by decide, by decide, by decide⟩
theorem cod_11 : Cod [1, 1] := ⟨fun i => by rcases i with _ | _ | i <;> simp, by decide, by decide, by decide⟩
/-- A copy of a list of numbers. -/
theorem ints_copy (w : World) (v : Value) (zs : List Int) (h : SlR RI (fun _ => False) v zs w) (hl : zs.length ≤ 17592186043904) :
    ∃ g c W, Hid (∀ ty, (Builtin.append_ #[42, 42] ty #[.slice (some ⟨w.heap.size, 0, none⟩) 0 0, v]).run Tryd.prog (w.alloc (.cells #[] 3)) = .ok (.slice (some ⟨g, 0, none⟩) zs.length c) W) ∧ OwR RI g (.slice (some ⟨g, 0, none⟩) zs.length c) zs W ∧ Nw w W ∧ w.heap.size ≤ g := by
  have hN : Nw w (w.alloc (.cells #[] 3)) := (Fr.refl _ _).alloc _
  obtain ⟨v', g', W, k1, k2, k3, k4⟩ := owR_app riOk _ _ _ _ (OwR.empty (R := RI) w) v zs (h.nw hN) (by simp [RI]; omega) (by simp; omega)
  rw [List.nil_append] at k2
  obtain ⟨c', e, _, _⟩ := k2.form
  subst e
  refine ⟨g', c', W, k1, k2, Fr.then hN k3 (fun i hi => .inr (by omega)), ?_⟩
  rcases k4 with e | e
  · omega
  · have e2 : (w.alloc (.cells #[] RI.T)).heap.size = w.heap.size + 1 := by simp
    omega
theorem OwR.low {g : Nat} {v : Value} {l : List Int} {w : World} (h : OwR RI g v l w) : SlR RI (fun k => w.heap.size ≤ k) v l w := (h.slr riOk).mono (fun k hk => by have := h.lt; omega)
/-- A code of lengths that stand in the text. -/
theorem newCode_lit (w : World) (ls : List Nat) (hk : Cod ls) (cs : Array Value) (hc : cs = (flatR RI (toI ls)).toArray) (n : Nat) (hn : n = ls.length) : Calls Tryd.prog 88 #[.slice (some ⟨w.heap.size, 0, none⟩) n n] (w.alloc (.cells cs 3)) fun e w' => ∃ cb gw gs ws ss, e = .returned (.tuple #[.pointer (some ⟨cb, 0, none⟩), .int .i64 0]) ∧ CodeI cb gw gs ls ws ss w' ∧ Nw w w' := by
  have hb := OwR.built riOk w (toI ls) cs hc (by rw [toI_length]; have := hk.len; omega)
  rw [toI_length] at hb
  subst hn
  refine (newCode_yes _ _ ls hb.low hk).mono ?_
  rintro e w' ⟨cb, gw, gs, ws, ss, rfl, h1, h2, _⟩
  exact ⟨cb, gw, gs, ws, ss, rfl, h1, ((Fr.refl _ _).alloc _ : Nw w _).trans h2⟩
end Go.Proofs.YtincbbnppcpfpaaDoor
