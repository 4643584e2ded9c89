import Derived.Test.YtoplhkpbicgceaaApD
namespace Go.Proofs.Ytoplhkpbicgceaa
open Go.RowKit
set_option linter.unusedVariables false
set_option maxRecDepth 100000
/-- How the document's Check stands. -/
structure Cr (w : World) (e : Ae) (p : Ap) (V : World) : Prop where
  en : V.heap[w.heap.size]? = some (.cells e.C 26)
  po : V.heap[w.heap.size + 1]? = some (.cells p.C 29)
  nw : Nw w V
theorem Cr.on {w V U : World} {e : Ae} {p : Ap} (h : Cr w e p V) (k : Nw V U) : Cr w e p U := ⟨k.heap h.en, k.heap h.po, h.nw.trans k⟩
theorem cr_start (w : World) (e : Ae) (p : Ap) : Cr w e p ((w.alloc (.cells e.C 26)).alloc (.cells p.C 29)) := by
  refine ⟨?_, ?_, ((Fr.refl _ _).alloc _).alloc _⟩
  · exact (Below.heap_alloc _ _ _ (by simp)).trans (heap_alloc_new _ _)
  · have h : (w.alloc (.cells e.C 26)).heap.size = w.heap.size + 1 := by simp
    rw [← h]; exact heap_alloc_new _ _
def CrC (B : Nat) (e : Ae) (p : Ap) (V : World) : Prop :=
  V.cell? ⟨B, 0, none⟩ = some (.string (mk e.nm)) ∧ V.cell? ⟨B, 1, none⟩ = some (.int .i64 e.kind) ∧ V.cell? ⟨B, 2, none⟩ = some (.int .u32 e.md) ∧ V.cell? ⟨B, 3, none⟩ = some (.int .u32 e.ud) ∧ V.cell? ⟨B, 4, none⟩ = some (.int .u32 e.gd) ∧ V.cell? ⟨B, 5, none⟩ = some (.int .i64 e.tm) ∧ V.cell? ⟨B, 6, none⟩ = some (.int .i32 e.nn) ∧ V.cell? ⟨B, 7, none⟩ = some (.string e.us) ∧ V.cell? ⟨B, 8, none⟩ = some (.string e.gr) ∧ V.cell? ⟨B, 9, none⟩ = some (.string (mk e.lk)) ∧ V.cell? ⟨B, 10, none⟩ = some (.int .i64 e.sz) ∧ V.cell? ⟨B, 11, none⟩ = some (.int .u8 e.ty) ∧
  V.cell? ⟨B + 1, 0, none⟩ = some (.int .i64 p.there) ∧ V.cell? ⟨B + 1, 1, none⟩ = some (.bool p.par) ∧ V.cell? ⟨B + 1, 2, none⟩ = some (.int .u32 p.mask) ∧ V.cell? ⟨B + 1, 3, none⟩ = some (.bool p.leav)
theorem cr_cells {w V : World} {e : Ae} {p : Ap} (h : Cr w e p V) : CrC w.heap.size e p V := by
  obtain ⟨h1, h2, _⟩ := h
  unfold Ae.C at h1
  unfold Ap.C at h2
  unfold CrC
  refine ⟨?_, ?_, ?_, ?_, ?_, ?_, ?_, ?_, ?_, ?_, ?_, ?_, ?_, ?_, ?_, ?_⟩ <;> simp [World.cell?, h1, h2]
set_option maxHeartbeats 8000000 in
theorem rcheck_any (w : World) (e : Ae) (p : Ap) (hn : e.nm.length ≤ 140737488351232) (hl : e.lk.length ≤ 140737488351232) (a0 : Option Addr) (n c0 : Nat) (hnb : n ≤ 140737488351232) :
    Calls Try.prog 6 #[.agg e.C, .slice a0 n c0, .agg p.C] w fun r w' => r = .returned (.int .i64 ((chkF e n p : Nat) : Int)) ∧ Nw w w' := by
  obtain ⟨P, hP⟩ : ∃ P : Ending → World → Prop, P = fun r w' => r = .returned (.int .i64 ((chkF e n p : Nat) : Int)) ∧ Nw w w' := ⟨_, rfl⟩
  rw [← hP]
  have HF : Hid (∀ k : Nat, chkF e n p = k → ∀ z : Int, (k : Int) = z → ∀ V, Cr w e p V → P (.returned (.int .i64 z)) V) := fun k hk z hz V hV => by rw [hP]; exact ⟨by rw [hk, hz], hV.nw⟩
  clear hP
  have HK0 := cr_start w e p
  have HS : Hid (Calls Try.prog 9 #[.string (mk e.nm)] ((w.alloc (.cells e.C 26)).alloc (.cells p.C 29)) fun r w' => ∃ a n c, r = .returned (.tuple #[.slice a n c, .int .i64 ((splE e.nm : Nat) : Int)]) ∧ Cr w e p w' ∧ (splE e.nm = 0 → GdN e.nm a n c w')) := by
    show Calls _ _ _ _ _
    refine (qsplit_any _ e.nm hn).mono ?_
    rintro r w' ⟨a, n, c, rfl, H⟩
    have H' := H
    obtain ⟨og, _, _, hN⟩ := H'
    exact ⟨a, n, c, rfl, HK0.on hN, fun h => gdN H h⟩
  have HM : Hid (∀ V, Cr w e p V → Calls Try.prog 11 #[.agg e.C, .agg p.C] V fun r w' => r = .returned (.agg #[.int .u32 (mskM e.md p.mask), .int .u32 e.ud, .int .u32 e.gd, .int .i64 e.tm, .int .i32 e.nn]) ∧ Cr w e p w') := fun V hV => (rmetaE_any e p V).mono (fun r w' ⟨e1, e2⟩ => ⟨e1, hV.on e2⟩)
  have HC : Hid (∀ V, Cr w e p V → Calls Try.prog 10 #[.agg #[.int .u32 (mskM e.md p.mask), .int .u32 e.ud, .int .u32 e.gd, .int .i64 e.tm, .int .i32 e.nn]] V fun r w' => r = .returned (.bool (metF (mskM e.md p.mask) e.nn)) ∧ Cr w e p w') := fun V hV => (rmeta_any _ _ _ _ _ V).mono (fun r w' ⟨e1, e2⟩ => ⟨e1, hV.on e2⟩)
  have HT : Hid (∀ V, Calls Try.prog 12 #[.string (mk e.lk)] V fun r w' => r = .returned (.bool (tgOk e.lk)) ∧ V = w') := fun V => (rtarget_any e.lk hl V).mono (fun r w' ⟨e1, e2⟩ => ⟨e1, e2.symm⟩)
  have HL : Hid (∀ a n c V, n ≤ 140737488351232 → e.lk.length ≤ 1048576 → Cr w e p V → Calls Try.prog 13 #[.slice a n c, .string (mk e.lk)] V fun r w' => r = .returned (.bool (lvF n e.lk)) ∧ Cr w e p w') := fun a n c V h1 h2 hV => (qleaves_any V a n c e.lk h1 h2).mono (fun r w' ⟨e1, e2⟩ => ⟨e1, hV.on e2⟩)
  have HS2 : Hid (∀ V, Cr w e p V → Calls Try.prog 9 #[.string (mk e.lk)] V fun r w' => ∃ a n c, r = .returned (.tuple #[.slice a n c, .int .i64 ((splE e.lk : Nat) : Int)]) ∧ Cr w e p w') := fun V hV => by
    refine (qsplit_any V e.lk hl).mono ?_
    rintro r w' ⟨a, n, c, rfl, og, _, _, hN⟩
    exact ⟨a, n, c, rfl, hV.on hN⟩
  have KC : Hid (∀ V, Cr w e p V → _) := fun V h => And.intro (cr_cells h) (tHid h)
  unfold CrC at KC
  have K0 := tHid HK0
  clear HK0 hn hl
  unfold Ae.C Ap.C at HS HM K0
  rcases (Classical.em (0 ≤ p.there ∧ p.there ≤ 2)).symm with h1 | h1
  · have HZ := tHid (HF.out 1 (by unfold chkF; rw [if_pos h1]) 1 rfl)
    clear HF HS HM HC HT HL HS2 KC
    by_cases h2 : p.there < 0
    · have d1 := decide_eq_true h2
      clear h1
      unfold Ae.C Ap.C
      go_enter Try.func6, Try.ntmps6
      go_wp2_with fail
      exact HZ.out _ K0.out
    · have d1 := decide_eq_false h2
      have h3 : 2 < p.there := by omega
      have d2 := decide_eq_true h3
      clear h1
      unfold Ae.C Ap.C
      go_enter Try.func6, Try.ntmps6
      go_wp2_with fail
      exact HZ.out _ K0.out
  have g1 : ¬ p.there < 0 := by omega
  have g2 : ¬ 2 < p.there := by omega
  have d1 := decide_eq_false g1
  have d2 := decide_eq_false g2
  have h1' := tHid h1
  clear h1
  rcases (Classical.em (splE e.nm = 0)).symm with h2 | h2
  · have hd : (((splE e.nm : Nat) : Int) != 0) = true := by simp; omega
    have HZ := tHid (HF.out (splE e.nm) (by unfold chkF; rw [if_neg (by simp [h1'.out]), if_pos h2]) _ rfl)
    clear HF h2 HM HC HT HL HS2 K0 h1'
    generalize ((splE e.nm : Nat) : Int) = z at *
    unfold Ae.C Ap.C
    go_enter Try.func6, Try.ntmps6
    go_wp2_with (first
      | (go_at_call 9; with_reducible refine HS.out.mono ?_; rintro r w2 ⟨a, nq, c, rfl, H2, _⟩; obtain ⟨⟨_, _, _, _, _, _, _, _, _, _, _, _, _, _, _, _⟩, K2⟩ := KC.out _ H2))
    exact HZ.out _ K2.out
  have HS' : Hid (Calls Try.prog 9 #[.string (mk e.nm)] ((w.alloc (.cells e.C 26)).alloc (.cells p.C 29)) fun r w' => ∃ a n c, r = .returned (.tuple #[.slice a n c, .int .i64 0]) ∧ Cr w e p w' ∧ GdN e.nm a n c w') := by
    show Calls _ _ _ _ _
    refine HS.out.mono ?_
    rintro r w' ⟨a, n, c, rfl, H1, H2⟩
    exact ⟨a, n, c, by rw [h2]; rfl, H1, H2 h2⟩
  unfold Ae.C Ap.C at HS'
  have h2' := tHid h2
  clear HS h2 K0
  rcases (Classical.em (1 ≤ e.kind ∧ e.kind ≤ 4)).symm with h3 | h3
  · have HZ := tHid (HF.out 193 (by unfold chkF; rw [if_neg (by simp [h1'.out]), if_neg (by simp [h2'.out]), if_pos h3]) 193 rfl)
    clear HF HM HC HT HL HS2 h1' h2'
    by_cases h4 : e.kind < 1
    · have d3 := decide_eq_true h4
      clear h3
      unfold Ae.C Ap.C
      go_enter Try.func6, Try.ntmps6
      go_wp2_with (first
        | (go_at_call 9; with_reducible refine HS'.out.mono ?_; rintro r w2 ⟨a, nq, c, rfl, H2, _⟩; obtain ⟨⟨_, _, _, _, _, _, _, _, _, _, _, _, _, _, _, _⟩, K2⟩ := KC.out _ H2))
      exact HZ.out _ K2.out
    · have d3 := decide_eq_false h4
      have h5 : 4 < e.kind := by omega
      have d4 := decide_eq_true h5
      clear h3
      unfold Ae.C Ap.C
      go_enter Try.func6, Try.ntmps6
      go_wp2_with (first
        | (go_at_call 9; with_reducible refine HS'.out.mono ?_; rintro r w2 ⟨a, nq, c, rfl, H2, _⟩; obtain ⟨⟨_, _, _, _, _, _, _, _, _, _, _, _, _, _, _, _⟩, K2⟩ := KC.out _ H2))
      exact HZ.out _ K2.out
  have g3 : ¬ e.kind < 1 := by omega
  have g4 : ¬ 4 < e.kind := by omega
  have d3 := decide_eq_false g3
  have d4 := decide_eq_false g4
  have h3' := tHid h3
  clear h3
  rcases (Classical.em (metF (mskM e.md p.mask) e.nn = true)).symm with h4 | h4
  · have h4f : metF (mskM e.md p.mask) e.nn = false := by simpa using h4
    have HZ := tHid (HF.out 1 (by unfold chkF; rw [if_neg (by simp [h1'.out]), if_neg (by simp [h2'.out]), if_neg (by simp [h3'.out]), if_pos h4f]) 1 rfl)
    rw [h4f] at HC
    clear HF HT HL HS2 h1' h2' h3' h4 h4f
    generalize mskM e.md p.mask = MM at *
    unfold Ae.C Ap.C
    go_enter Try.func6, Try.ntmps6
    go_wp2_with (first
      | (go_at_call 9; with_reducible refine HS'.out.mono ?_; rintro r w2 ⟨a, nq, c, rfl, H2, _⟩; obtain ⟨⟨_, _, _, _, _, _, _, _, _, _, _, _, _, _, _, _⟩, K2⟩ := KC.out _ H2)
      | (go_at_call 11; with_reducible refine (HM.out _ K2.out).mono ?_; rintro r w4 ⟨rfl, H4⟩; have K4 := tHid H4)
      | (go_at_call 10; with_reducible refine (HC.out _ K4.out).mono ?_; rintro r w5 ⟨rfl, H5⟩; obtain ⟨⟨_, _, _, _, _, _, _, _, _, _, _, _, _, _, _, _⟩, K5⟩ := KC.out _ H5))
    exact HZ.out _ K5.out
  have HE : Hid (chkF e n p = if e.kind = 2 ∧ e.sz ≠ n then 192 else if e.kind = 3 then tgF ((cps e.nm).length - 1) e.lk p.leav else if e.kind = 4 then splE e.lk else 0) := by
    show _ = _
    unfold chkF; rw [if_neg (by simp [h1'.out]), if_neg (by simp [h2'.out]), if_neg (by simp [h3'.out]), if_neg (by rw [h4]; simp)]
  rw [h4] at HC
  clear h4 h1' h2'
  generalize hmm : mskM e.md p.mask = MM at *
  clear hmm
  have hk := h3'.out
  have hk4 : e.kind = 1 ∨ e.kind = 2 ∨ e.kind = 3 ∨ e.kind = 4 := by omega
  clear hk h3'
  have HM2 : Hid (∀ a n c V, Cr w e p V ∧ GdN e.nm a n c V → Calls Try.prog 11 #[.agg e.C, .agg p.C] V fun r w' => r = .returned (.agg #[.int .u32 MM, .int .u32 e.ud, .int .u32 e.gd, .int .i64 e.tm, .int .i32 e.nn]) ∧ Cr w e p w') := fun a n c V hV => HM.out V hV.1
  unfold Ae.C Ap.C
  go_enter Try.func6, Try.ntmps6
  go_upto_region 10 with (first
    | (go_at_call 9; (with_reducible refine HS'.out.mono ?_); rintro r w2 ⟨a, nq, c, rfl, H2, g, rfl, gn, g5, g6, g7, g8, L, gL⟩; have GN := tHid gn; clear gn gL; obtain ⟨⟨_, _, _, _, _, _, _, _, _, _, _, _, _, _, _, _⟩, K2⟩ := KC.out _ H2)
    | (go_at_call 11; with_reducible refine (HM.out _ K2.out).mono ?_; rintro r w4 ⟨rfl, H4⟩; have K4 := tHid H4)
    | (go_at_call 10; with_reducible refine (HC.out _ K4.out).mono ?_; rintro r w5 ⟨rfl, H5⟩; obtain ⟨⟨_, _, _, _, _, _, _, _, _, _, _, _, _, _, _, _⟩, K5⟩ := KC.out _ H5))
  clear HM HM2 HC HS'
  have HGN : Hid (nq = (cps e.nm).length ∧ nq ≤ 256) := ⟨GN.out, g6⟩
  clear GN
  rcases hk4 with hk | hk | hk | hk
  · have k2 : (e.kind == 2) = false := by rw [hk]; rfl
    have k3 : (e.kind == 3) = false := by rw [hk]; rfl
    have k4 : (e.kind == 4) = false := by rw [hk]; rfl
    have HZ := tHid (HF.out 0 (by rw [HE.out, hk]; rfl) 0 rfl)
    clear hk HE HF HT HL HS2
    go_wp2_with fail
    exact HZ.out _ K5.out
  · have k2 : (e.kind == 2) = true := by rw [hk]; rfl
    have k3 : (e.kind == 3) = false := by rw [hk]; rfl
    have k4 : (e.kind == 4) = false := by rw [hk]; rfl
    by_cases hs : e.sz = (n : Int)
    · have s2 : (e.sz != (n : Int)) = false := by rw [hs]; simp
      have HZ := tHid (HF.out 0 (by rw [HE.out, hk, if_neg (by simp [hs])]; rfl) 0 rfl)
      clear hk hs HE HF HT HL HS2
      go_wp2_with fail
      exact HZ.out _ K5.out
    · have s2 : (e.sz != (n : Int)) = true := by simpa using hs
      have HZ := tHid (HF.out 192 (by rw [HE.out, if_pos ⟨hk, hs⟩]) 192 rfl)
      clear hk hs HE HF HT HL HS2
      go_wp2_with fail
      exact HZ.out _ K5.out
  · have k2 : (e.kind == 2) = false := by rw [hk]; rfl
    have k3 : (e.kind == 3) = true := by rw [hk]; rfl
    have k4 : (e.kind == 4) = false := by rw [hk]; rfl
    have HZ : Hid (chkF e n p = tgF (nq - 1) e.lk p.leav) := by
      show _ = _
      rw [HE.out, if_neg (by rw [hk]; simp), if_pos hk, HGN.out.1]
    have hq1 : (nq : Int) - 1 = ((nq - 1 : Nat) : Int) := by omega
    clear hk HE HS2
    rcases (Classical.em (tgOk e.lk = true)).symm with ht | ht
    · have htf : tgOk e.lk = false := by simpa using ht
      rw [htf] at HT
      have HY := tHid (HF.out 107 (by rw [HZ.out]; unfold tgF; rw [if_pos htf]) 107 rfl)
      clear HF HZ ht htf HL
      go_wp2_with (first
        | (go_at_call 12; with_reducible refine (HT.out _).mono ?_; rintro r w6 ⟨rfl, rfl⟩))
      exact HY.out _ K5.out
    · rw [ht] at HT
      have hlk : e.lk.length ≤ 1048576 := by
        unfold tgOk at ht
        simp at ht
        omega
      have HLL : Hid (∀ V, Cr w e p V → Calls Try.prog 13 #[.slice (some ⟨g, 0, none⟩) (nq - 1) c, .string (mk e.lk)] V fun r w' => r = .returned (.bool (lvF (nq - 1) e.lk)) ∧ Cr w e p w') := fun V hV => HL.out _ _ _ V (by omega) hlk hV
      have HTG : Hid (tgF (nq - 1) e.lk p.leav = if p.leav = false ∧ lvF (nq - 1) e.lk = true then 190 else 0) := by
        show _ = _
        unfold tgF; rw [if_neg (by rw [ht]; simp)]
      clear ht hlk HL
      have HHF : Hid (∀ k : Nat, (if p.leav = false ∧ lvF (nq - 1) e.lk = true then 190 else 0) = k → ∀ z : Int, (k : Int) = z → ∀ V, Cr w e p V → P (.returned (.int .i64 z)) V) := fun k hk => HF.out k (by rw [HZ.out, HTG.out]; exact hk)
      clear HF HZ HTG
      generalize hB : lvF (nq - 1) e.lk = B at *
      clear hB
      go_upto_region 15 with (first
        | (go_at_call 12; with_reducible refine (HT.out _).mono ?_; rintro r w6 ⟨rfl, rfl⟩))
      have HEZ : Hid (p.leav = true → ∀ V, Cr w e p V → P (.returned (.int .i64 0)) V) := fun h => HHF.out 0 (by rw [h, if_neg (by simp)]) 0 rfl
      have K5d : Hid (Cr w e p w5.drew) := K5.out.on (Fr.refl _ _).drew
      rcases Bool.eq_false_or_eq_true p.leav with hlv | hlv
      · have HZ := tHid (HEZ.out hlv)
        have Q5 : w5.cell? ⟨w.heap.size + 1, 3, none⟩ = some (.bool true) := by
          obtain ⟨⟨_, _, _, _, _, _, _, _, _, _, _, _, _, _, _, x2⟩, _⟩ := KC.out _ K5.out
          rw [hlv] at x2
          exact x2
        clear HHF HEZ HLL
        go_quiet (fail)
        go_wp2_with fail
        first | exact HZ.out _ (K5.out.on ((Fr.refl _ _).drewN _)) | exact HZ.out _ K5d.out
      · have HZ1 : Hid (B = true → ∀ V, Cr w e p V → P (.returned (.int .i64 190)) V) := fun hB => HHF.out 190 (by rw [if_pos ⟨hlv, hB⟩]) _ rfl
        have HZ2 : Hid (B = false → ∀ V, Cr w e p V → P (.returned (.int .i64 0)) V) := fun hB => HHF.out 0 (by rw [if_neg (by rw [hB]; simp)]) _ rfl
        have KEY : Hid (∀ U, Cr w e p U → U.cell? ⟨w.heap.size + 1, 3, none⟩ = some (.bool p.leav) ∧ U.cell? ⟨w.heap.size, 9, none⟩ = some (.string (mk e.lk)) ∧ Hid (Cr w e p U)) := fun U hU => by
          obtain ⟨⟨_, _, _, _, _, _, _, _, _, x1, _, _, _, _, _, x2⟩, x3⟩ := KC.out U hU
          exact ⟨x2, x1, x3⟩
        clear HHF HEZ
        rw [hlv] at KEY
        clear hlv
        clear hq1
        have hw1 : IntKind.i64.wrap ((nq : Int) - 1) = ((nq - 1 : Nat) : Int) := by rw [IntKind.wrap_i64]; omega
        have hz1 : (0 : Int) ≤ ((nq - 1 : Nat) : Int) := by omega
        have hz2 : ((nq - 1 : Nat) : Int) ≤ (c : Int) := by omega
        have hz3 : nq - 1 ≤ c := by omega
        go_region_held3 (fun U => U.cell? ⟨w.heap.size + 1, 3, none⟩ = some (.bool false) ∧ U.cell? ⟨w.heap.size, 9, none⟩ = some (.string (mk e.lk)) ∧ Hid (Cr w e p U))
          (first | exact KEY.out _ H8.out | exact KEY.out _ K5d.out | exact KEY.out _ K5.out)
          (first
            | (go_at_call 13; with_reducible refine (HLL.out _ K5.out).mono ?_; rintro r w8 ⟨rfl, H8'⟩; have H8 := tHid H8')
            | (go_at_call 13; with_reducible refine (HLL.out _ K5d.out).mono ?_; rintro r w8 ⟨rfl, H8'⟩; have H8 := tHid H8'))
        cases B with
        | true => go_wp2_with fail; exact HZ1.out (by trivial) _ H8.out
        | false =>
          obtain ⟨⟨_, _, _, _, _, _, _, _, _, _, _, _, _, _, _, _⟩, K8⟩ := KC.out _ H8.out
          go_wp2_with fail
          exact HZ2.out (by trivial) _ H8.out
  · have k2 : (e.kind == 2) = false := by rw [hk]; rfl
    have k3 : (e.kind == 3) = false := by rw [hk]; rfl
    have k4 : (e.kind == 4) = true := by rw [hk]; rfl
    have HZ : Hid (chkF e n p = splE e.lk) := by
      show _ = _
      rw [HE.out, if_neg (by rw [hk]; simp), if_neg (by rw [hk]; simp), if_pos hk]
    have HSS := tHid (HS2.out w5 K5.out)
    have HY := tHid (HF.out _ HZ.out _ rfl)
    clear hk HE HT HL HS2 HF HZ
    generalize ((splE e.lk : Nat) : Int) = z at *
    go_wp2_with (first
      | (go_at_call 9; with_reducible refine HSS.out.mono ?_; rintro r w7 ⟨a7, n7, c7, rfl, H7⟩))
    exact HY.out _ H7
end Go.Proofs.Ytoplhkpbicgceaa
