import Derived.Test.YtoplhkpbicgceaaApB
import Derived.BigRegion
namespace Go.Proofs.Ytoplhkpbicgceaa
open Go.RowKit
set_option linter.unusedVariables false
set_option maxRecDepth 100000
theorem nret19 {R : Ending → World → Prop} {a : Act} {w : World} {cs : Array Value} (sb : Nat) (h1 : a.tmps.getD 6 undef = .pointer (some ⟨sb, 0, none⟩)) (hrow : w.heap[sb]? = some (.cells cs 40)) (hsz : cs.size = 3) (hd : a.defers = []) (hR : R (.returned (.tuple #[.agg cs, a.tmps.getD 7 undef])) w) : bodyPost Try.prog Try.f8 R .ret a w := by
  have hi : (Try.prog.info? 40).map (·.size) = some cs.size := by rw [hsz]; kernel_rfl
  have hl := run_loadVar_row (P := Try.prog) w sb 40 40 cs (0, 0) _ hrow Try.underlying40 rfl hi
  have hp' : a.tmps[6]?.getD undef = .pointer (some ⟨sb, 0, none⟩) := by simpa using h1
  refine bodyPost_ret ?_ hd hR
  simp [results, hp', asAddr, hl]
def nm0 : Array Value := #[.slice none 0 0, .string ⟨#[]⟩, .slice none 0 0]
/-- How checked's call stands: the entry, the policy, the result's box. -/
structure Ck (w : World) (e : Ae) (p : Ap) (V : World) : Prop where
  en : V.heap[w.heap.size]? = some (.cells e.C 26)
  po : V.heap[w.heap.size + 1]? = some (.cells p.C 29)
  nm : V.heap[w.heap.size + 1 + 1]? = some (.cells nm0 40)
  nw : Nw w V
theorem Ck.on {w V U : World} {e : Ae} {p : Ap} (h : Ck w e p V) (k : Nw V U) : Ck w e p U := ⟨k.heap h.en, k.heap h.po, k.heap h.nm, h.nw.trans k⟩
theorem ck_start (w : World) (e : Ae) (p : Ap) : Ck w e p (((w.alloc (.cells e.C 26)).alloc (.cells p.C 29)).alloc (.cells nm0 40)) := by
  refine ⟨?_, ?_, al3 _ _ _ _, (((Fr.refl _ _).alloc _).alloc _).alloc _⟩
  · exact (Below.heap_alloc _ _ _ (by simp; omega)).trans ((Below.heap_alloc _ _ _ (by simp)).trans (heap_alloc_new _ _))
  · refine (Below.heap_alloc _ _ _ (by simp)).trans ?_
    have h : (w.alloc (.cells e.C 26)).heap.size = w.heap.size + 1 := by simp
    rw [← h]; exact heap_alloc_new _ _
/-- All the cells that the call reads. -/
def CkC (B : Nat) (e : Ae) (p : Ap) (V : World) : Prop :=
  V.cell? ⟨B, 0, none⟩ = some (.string (mk e.nm)) ∧ V.cell? ⟨B, 1, none⟩ = some (.int .i64 e.kind) ∧ V.cell? ⟨B, 2, none⟩ = some (.int .u32 e.md) ∧ V.cell? ⟨B, 3, none⟩ = some (.int .u32 e.ud) ∧ V.cell? ⟨B, 4, none⟩ = some (.int .u32 e.gd) ∧ V.cell? ⟨B, 5, none⟩ = some (.int .i64 e.tm) ∧ V.cell? ⟨B, 6, none⟩ = some (.int .i32 e.nn) ∧ V.cell? ⟨B, 9, none⟩ = some (.string (mk e.lk)) ∧ V.cell? ⟨B, 10, none⟩ = some (.int .i64 e.sz) ∧
  V.cell? ⟨B + 1, 0, none⟩ = some (.int .i64 p.there) ∧ V.cell? ⟨B + 1, 1, none⟩ = some (.bool p.par) ∧ V.cell? ⟨B + 1, 2, none⟩ = some (.int .u32 p.mask) ∧ V.cell? ⟨B + 1, 3, none⟩ = some (.bool p.leav) ∧
  V.cell? ⟨B + 1 + 1, 0, none⟩ = some (.slice none 0 0) ∧ V.cell? ⟨B + 1 + 1, 1, none⟩ = some (.string ⟨#[]⟩) ∧ V.cell? ⟨B + 1 + 1, 2, none⟩ = some (.slice none 0 0) ∧
  V.frozen? ⟨B + 1 + 1, 0, none⟩ = false ∧ V.frozen? ⟨B + 1 + 1, 1, none⟩ = false ∧ V.frozen? ⟨B + 1 + 1, 2, none⟩ = false
theorem ck_cells {w V : World} {e : Ae} {p : Ap} (h : Ck w e p V) : CkC w.heap.size e p V := by
  obtain ⟨h1, h2, h3, _⟩ := h
  unfold Ae.C at h1
  unfold Ap.C at h2
  unfold nm0 at h3
  unfold CkC
  refine ⟨?_, ?_, ?_, ?_, ?_, ?_, ?_, ?_, ?_, ?_, ?_, ?_, ?_, ?_, ?_, ?_, ?_, ?_, ?_⟩ <;> simp [World.cell?, World.frozen?, h1, h2, h3]
theorem row_set19 {w : World} {rb : Nat} {a : Array Value} {T : Nat} (h : w.heap[rb]? = some (.cells a T)) (j : Nat) (v : Value) : (w.setCell ⟨rb, j, none⟩ v).heap[rb]? = some (.cells (a.setIfInBounds j v) T) := by
  simp [World.setCell, Array.getElem?_modify, h]
theorem setCell_id19 {w : World} {g i : Nat} {R : Array Value} {T : Nat} {v : Value} (h : w.heap[g]? = some (.cells R T)) (hv : R[i]? = some v) : w.setCell ⟨g, i, none⟩ v = w := by
  have hh : (w.setCell ⟨g, i, none⟩ v).heap = w.heap := by
    apply Array.ext_getElem?
    intro k
    by_cases hk : k = g
    · subst hk
      rw [row_set19 h i v, h]
      congr 2
      apply Array.ext_getElem?
      intro j
      rw [Array.getElem?_setIfInBounds]
      split
      · rename_i e
        subst e
        split
        · exact hv.symm
        · rename_i hlt
          rw [Array.getElem?_eq_none (by omega)] at hv
          cases hv
      · rfl
    · simp [World.setCell, Array.getElem?_modify, Ne.symm hk]
  cases w
  simp only [World.setCell] at hh ⊢
  simp_all
theorem ck_same {w V : World} {e : Ae} {p : Ap} (h : Ck w e p V) : V.setCell ⟨w.heap.size + 1 + 1, 0, none⟩ (.slice none 0 0) = V ∧ V.setCell ⟨w.heap.size + 1 + 1, 1, none⟩ (.string ⟨#[]⟩) = V ∧ V.setCell ⟨w.heap.size + 1 + 1, 2, none⟩ (.slice none 0 0) = V := by
  exact ⟨setCell_id19 h.nm rfl, setCell_id19 h.nm rfl, setCell_id19 h.nm rfl⟩
/-- What checked answers. -/
def CkA (k : Nat) (w : World) (r : Ending) (w' : World) : Prop := ∃ a1 n1 c1 s a2 n2 c2, r = .returned (.tuple #[.agg #[.slice a1 n1 c1, .string s, .slice a2 n2 c2], .int .i64 (k : Int)]) ∧ Nw w w'
set_option maxHeartbeats 4000000 in
theorem checked_bad (w : World) (e : Ae) (p : Ap) (hn : e.nm.length ≤ 140737488351232) (vd : Value) (n : Nat) (hbad : ¬ (0 ≤ p.there ∧ p.there ≤ 2) ∨ splE e.nm ≠ 0 ∨ ¬ (1 ≤ e.kind ∧ e.kind ≤ 4) ∨ metF (mskM e.md p.mask) e.nn = false) :
    Calls Try.prog 8 #[.agg e.C, vd, .agg p.C] w (CkA (chkF e n p) w) := by
  obtain ⟨P, hP⟩ : ∃ P : Ending → World → Prop, P = CkA (chkF e n p) w := ⟨_, rfl⟩
  rw [← hP]
  have HF : Hid (∀ k : Nat, chkF e n p = k → ∀ z : Int, (k : Int) = z → ∀ V, Nw w V → P (.returned (.tuple #[.agg nm0, .int .i64 z])) V) := fun k hk z hz V hV => by rw [hP]; exact ⟨none, 0, 0, ⟨#[]⟩, none, 0, 0, by rw [hk, hz]; rfl, hV⟩
  clear hP
  have HT := tHid (fun V => isThere_any p.there V)
  have HK0 := ck_start w e p
  have HS : Hid (Calls Try.prog 15 #[.string (mk e.nm)] (((w.alloc (.cells e.C 26)).alloc (.cells p.C 29)).alloc (.cells nm0 40)) fun r w' => ∃ a n c, r = .returned (.tuple #[.slice a n c, .int .i64 ((splE e.nm : Nat) : Int)]) ∧ Ck w e p w') := by
    show Calls _ _ _ _ _
    refine (psplit_any _ e.nm hn).mono ?_
    rintro r w' ⟨a, n, c, rfl, og, _, _, hN⟩
    exact ⟨a, n, c, rfl, HK0.on hN⟩
  have HB := tHid (fun V => isBroughtOut_any e.kind V)
  have HM : Hid (∀ V, Ck w e p V → Calls Try.prog 18 #[.agg #[.int .u32 e.md, .int .u32 e.ud, .int .u32 e.gd, .int .i64 e.tm, .int .i32 e.nn], .agg p.C] V fun r w' => r = .returned (.agg #[.int .u32 (mskM e.md p.mask), .int .u32 e.ud, .int .u32 e.gd, .int .i64 e.tm, .int .i32 e.nn]) ∧ Ck w e p w') := fun V hV => (amasked_any _ _ _ _ _ p V).mono (fun r w' ⟨e1, e2⟩ => ⟨e1, hV.on e2⟩)
  have HC : Hid (∀ V, Ck w e p V → Calls Try.prog 17 #[.agg #[.int .u32 (mskM e.md p.mask), .int .u32 e.ud, .int .u32 e.gd, .int .i64 e.tm, .int .i32 e.nn]] V fun r w' => r = .returned (.bool (metF (mskM e.md p.mask) e.nn)) ∧ Ck w e p w') := fun V hV => (acanBe_any _ _ _ _ _ V).mono (fun r w' ⟨e1, e2⟩ => ⟨e1, hV.on e2⟩)
  unfold Ae.C Ap.C nm0 at HS
  unfold Ap.C at HM
  by_cases h1 : 0 ≤ p.there ∧ p.there ≤ 2
  · have t1 : thF p.there = true := decide_eq_true h1
    rw [t1] at HT
    by_cases h2 : splE e.nm = 0
    · rw [h2] at HS
      by_cases h3 : 1 ≤ e.kind ∧ e.kind ≤ 4
      · have t3 : kdF e.kind = true := decide_eq_true h3
        rw [t3] at HB
        have h4 : metF (mskM e.md p.mask) e.nn = false := by
          rcases hbad with h | h | h | h
          · exact absurd h1 h
          · exact absurd h2 h
          · exact absurd h3 h
          · exact h
        rw [h4] at HC
        have HZ := tHid (HF.out 1 (by unfold chkF; rw [if_neg (by simp [h1]), if_neg (by simp [h2]), if_neg (by simp [h3]), if_pos h4]) 1 rfl)
        clear HF h1 h2 h3 h4 hbad t1 t3 HK0 hn
        generalize mskM e.md p.mask = MM at *
        have KC : Hid (∀ V, Ck w e p V → _) := fun V h => And.intro (ck_cells h) (And.intro (ck_same h) (tHid h))
        unfold CkC at KC
        unfold Ae.C Ap.C
        go_enter Try.func8, Try.ntmps8
        go_wp2_with (first
          | (go_at_call 14; with_reducible refine (HT.out _).mono ?_; rintro r w1 ⟨rfl, rfl⟩)
          | (go_at_call 15; with_reducible refine HS.out.mono ?_; rintro r w2 ⟨a, nq, c, rfl, H2⟩; obtain ⟨⟨_, _, _, _, _, _, _, _, _, _, _, _, _, _, _, _, _, _, _⟩, ⟨_, _, _⟩, K2⟩ := KC.out _ H2)
          | (go_at_call 16; with_reducible refine (HB.out _).mono ?_; rintro r w3 ⟨rfl, rfl⟩)
          | (go_at_call 18; with_reducible refine (HM.out _ K2.out).mono ?_; rintro r w4 ⟨rfl, H4⟩; have K4 := tHid H4)
          | (go_at_call 17; with_reducible refine (HC.out _ K4.out).mono ?_; rintro r w5 ⟨rfl, H5⟩; obtain ⟨⟨_, _, _, _, _, _, _, _, _, _, _, _, _, _, _, _, _, _, _⟩, ⟨_, _, _⟩, K5⟩ := KC.out _ H5))
        refine nret19 (w.heap.size + 1 + 1) rfl K5.out.nm rfl rfl (HZ.out _ K5.out.nw)
      · have t3 : kdF e.kind = false := decide_eq_false h3
        rw [t3] at HB
        have HZ := tHid (HF.out 193 (by unfold chkF; rw [if_neg (by simp [h1]), if_neg (by simp [h2]), if_pos h3]) 193 rfl)
        clear HF h1 h2 h3 hbad t1 t3 HK0 hn HC HM
        have KC : Hid (∀ V, Ck w e p V → _) := fun V h => And.intro (ck_cells h) (And.intro (ck_same h) (tHid h))
        unfold CkC at KC
        unfold Ae.C Ap.C
        go_enter Try.func8, Try.ntmps8
        go_wp2_with (first
          | (go_at_call 14; with_reducible refine (HT.out _).mono ?_; rintro r w1 ⟨rfl, rfl⟩)
          | (go_at_call 15; with_reducible refine HS.out.mono ?_; rintro r w2 ⟨a, nq, c, rfl, H2⟩; obtain ⟨⟨_, _, _, _, _, _, _, _, _, _, _, _, _, _, _, _, _, _, _⟩, ⟨_, _, _⟩, K2⟩ := KC.out _ H2)
          | (go_at_call 16; with_reducible refine (HB.out _).mono ?_; rintro r w3 ⟨rfl, rfl⟩))
        refine nret19 (w.heap.size + 1 + 1) rfl K2.out.nm rfl rfl (HZ.out _ K2.out.nw)
    · have hd : (((splE e.nm : Nat) : Int) != 0) = true := by simp; omega
      have HZ := tHid (HF.out (splE e.nm) (by unfold chkF; rw [if_neg (by simp [h1]), if_pos h2]) _ rfl)
      clear HF h1 h2 hbad t1 HK0 hn HC HM HB
      generalize ((splE e.nm : Nat) : Int) = z at *
      have KC : Hid (∀ V, Ck w e p V → _) := fun V h => And.intro (ck_cells h) (And.intro (ck_same h) (tHid h))
      unfold CkC at KC
      unfold Ae.C Ap.C
      go_enter Try.func8, Try.ntmps8
      go_wp2_with (first
        | (go_at_call 14; with_reducible refine (HT.out _).mono ?_; rintro r w1 ⟨rfl, rfl⟩)
        | (go_at_call 15; with_reducible refine HS.out.mono ?_; rintro r w2 ⟨a, nq, c, rfl, H2⟩; obtain ⟨⟨_, _, _, _, _, _, _, _, _, _, _, _, _, _, _, _, _, _, _⟩, ⟨_, _, _⟩, K2⟩ := KC.out _ H2))
      refine nret19 (w.heap.size + 1 + 1) rfl K2.out.nm rfl rfl (HZ.out _ K2.out.nw)
  · have t1 : thF p.there = false := decide_eq_false h1
    rw [t1] at HT
    have HZ := tHid (HF.out 1 (by unfold chkF; rw [if_pos h1]) 1 rfl)
    have HK := tHid HK0
    clear HF h1 hbad t1 HK0 hn HC HM HB HS
    unfold Ae.C Ap.C at *
    go_enter Try.func8, Try.ntmps8
    go_wp2_with (first
      | (go_at_call 14; with_reducible refine (HT.out _).mono ?_; rintro r w1 ⟨rfl, rfl⟩))
    refine nret19 (w.heap.size + 1 + 1) rfl HK.out.nm rfl rfl (HZ.out _ HK.out.nw)
end Go.Proofs.Ytoplhkpbicgceaa
