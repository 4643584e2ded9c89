import Derived.Test.YtoplhkpbicgceaaApC
namespace Go.Proofs.Ytoplhkpbicgceaa
open Go.RowKit
set_option linter.unusedVariables false
set_option maxRecDepth 100000
/-- What Split left of a good name: its components, one block. -/
def GdN (l : Tx) (a : Option Addr) (n c : Nat) (V : World) : Prop := ∃ g, a = some ⟨g, 0, none⟩ ∧ n = (cps l).length ∧ 0 < n ∧ n ≤ 256 ∧ n ≤ c ∧ c < 9223372036854775808 ∧ ∃ L : Tx, V.cell? ⟨g, n - 1, none⟩ = some (.string (mk L))
theorem gdN {w V : World} {l : Tx} {a : Option Addr} {n c : Nat} (h : SpA w l a n c V) (h0 : splE l = 0) : GdN l a n c V := by
  obtain ⟨og, ho, _, _⟩ := h
  have hz := (splE_zero l).1 h0
  have e : (splF l).1 = cps l := by unfold splF; rw [if_pos h0]
  rw [e] at ho
  have hne : cps l ≠ [] := hz.2.2.2.2.1
  have hlen : (cps l).length ≤ 256 := hz.2.2.2.2.2.2
  have hpos : 0 < (cps l).length := List.length_pos_iff.2 hne
  cases og with
  | none => exact absurd ho.2 hne
  | some g =>
    have hs : OwR RS g (.slice a n c) (cps l) V := ho
    obtain ⟨c', hv, h1, h2⟩ := hs.form
    injection hv with ea en ec
    subst ea en ec
    refine ⟨g, rfl, rfl, hpos, hlen, h1, h2, (cps l)[(cps l).length - 1], ?_⟩
    have := (hs.cell rsOk ((cps l).length - 1) 0 _ _ (List.getElem?_eq_getElem (by omega)) rfl).1
    simpa [RS] using this
theorem ck_put {w V : World} {e : Ae} {p : Ap} (h : Ck w e p V) (a b c : Value) : ((((V.setCell ⟨w.heap.size + 1 + 1, 0, none⟩ a).setCell ⟨w.heap.size + 1 + 1, 1, none⟩ b).setCell ⟨w.heap.size + 1 + 1, 2, none⟩ c).heap[w.heap.size + 1 + 1]? = some (.cells #[a, b, c] 40)) ∧ Nw w (((V.setCell ⟨w.heap.size + 1 + 1, 0, none⟩ a).setCell ⟨w.heap.size + 1 + 1, 1, none⟩ b).setCell ⟨w.heap.size + 1 + 1, 2, none⟩ c) :=
  ⟨row_set19 (row_set19 (row_set19 h.nm 0 a) 1 b) 2 c, ((h.nw.setCell _ _ (.inr (Nat.le_trans (Nat.le_succ _) (Nat.le_succ _)))).setCell _ _ (.inr (Nat.le_trans (Nat.le_succ _) (Nat.le_succ _)))).setCell _ _ (.inr (Nat.le_trans (Nat.le_succ _) (Nat.le_succ _)))⟩
theorem Ck.setG {w V : World} {e : Ae} {p : Ap} (h : Ck w e p V) {G : Nat} (hG : w.heap.size + 1 + 1 < G) (i : Nat) (v : Value) : Ck w e p (V.setCell ⟨G, i, none⟩ v) :=
  ⟨(Below.heap_setCell _ _ _ _ (by show _ ≠ G; omega)).trans h.en, (Below.heap_setCell _ _ _ _ (by show _ ≠ G; omega)).trans h.po, (Below.heap_setCell _ _ _ _ (by show _ ≠ G; omega)).trans h.nm, h.nw.setCell _ _ (.inr (by show _ ≤ G; omega))⟩
theorem names_cells {V : World} {G : Nat} {a b c : Value} (h : V.heap[G]? = some (.cells #[a, b, c] 40)) : V.cell? ⟨G, 0, none⟩ = some a ∧ V.cell? ⟨G, 1, none⟩ = some b ∧ V.cell? ⟨G, 2, none⟩ = some c ∧ V.frozen? ⟨G, 2, none⟩ = false := by
  refine ⟨?_, ?_, ?_, ?_⟩ <;> simp [World.cell?, World.frozen?, h]
set_option maxHeartbeats 8000000 in
theorem checked_good (w : World) (e : Ae) (p : Ap) (hn : e.nm.length ≤ 140737488351232) (hl : e.lk.length ≤ 140737488351232) (a0 : Option Addr) (n c0 : Nat) (hnb : n ≤ 140737488351232) (h1 : 0 ≤ p.there ∧ p.there ≤ 2) (h2 : splE e.nm = 0) (h3 : 1 ≤ e.kind ∧ e.kind ≤ 4) (h4 : metF (mskM e.md p.mask) e.nn = true) :
    Calls Try.prog 8 #[.agg e.C, .slice a0 n c0, .agg p.C] w (CkA (chkF e n p) w) := by
  obtain ⟨P, hP⟩ : ∃ P : Ending → World → Prop, P = CkA (chkF e n p) w := ⟨_, rfl⟩
  rw [← hP]
  have HE : Hid (chkF e n p = if e.kind = 2 ∧ e.sz ≠ n then 192 else if e.kind = 3 then tgF ((cps e.nm).length - 1) e.lk p.leav else if e.kind = 4 then splE e.lk else 0) := by
    show _ = _
    unfold chkF; rw [if_neg (by simp [h1]), if_neg (by simp [h2]), if_neg (by simp [h3]), if_neg (by rw [h4]; simp)]
  have HF : Hid (∀ k : Nat, chkF e n p = k → ∀ z : Int, (k : Int) = z → ∀ a1 n1 c1 s a2 n2 c2 V, Nw w V → P (.returned (.tuple #[.agg #[.slice a1 n1 c1, .string s, .slice a2 n2 c2], .int .i64 z])) V) := fun k hk z hz a1 n1 c1 s a2 n2 c2 V hV => by rw [hP]; exact ⟨a1, n1, c1, s, a2, n2, c2, by rw [hk, hz], hV⟩
  clear hP
  have HT := tHid (fun V => isThere_any p.there V)
  have HK0 := ck_start w e p
  have HS : Hid (Calls Try.prog 15 #[.string (mk e.nm)] (((w.alloc (.cells e.C 26)).alloc (.cells p.C 29)).alloc (.cells nm0 40)) fun r w' => ∃ a n c, r = .returned (.tuple #[.slice a n c, .int .i64 0]) ∧ Ck w e p w' ∧ GdN e.nm a n c w') := by
    show Calls _ _ _ _ _
    refine (psplit_any _ e.nm hn).mono ?_
    rintro r w' ⟨a, n, c, rfl, H⟩
    have H' := H
    obtain ⟨og, _, _, hN⟩ := H'
    exact ⟨a, n, c, by rw [h2]; rfl, HK0.on hN, gdN H h2⟩
  have HB := tHid (fun V => isBroughtOut_any e.kind V)
  have HM : Hid (∀ g N (L : Tx) V, Ck w e p V ∧ V.cell? ⟨g, N, none⟩ = some (.string (mk L)) → Calls Try.prog 18 #[.agg #[.int .u32 e.md, .int .u32 e.ud, .int .u32 e.gd, .int .i64 e.tm, .int .i32 e.nn], .agg p.C] V fun r w' => r = .returned (.agg #[.int .u32 (mskM e.md p.mask), .int .u32 e.ud, .int .u32 e.gd, .int .i64 e.tm, .int .i32 e.nn]) ∧ (Ck w e p w' ∧ w'.cell? ⟨g, N, none⟩ = some (.string (mk L)))) := fun g N L V hV => (amasked_any _ _ _ _ _ p V).mono (fun r w' ⟨e1, e2⟩ => ⟨e1, hV.1.on e2, e2.cellv hV.2 (fun h => h)⟩)
  have HC : Hid (∀ g N (L : Tx) V, Ck w e p V ∧ V.cell? ⟨g, N, none⟩ = some (.string (mk L)) → Calls Try.prog 17 #[.agg #[.int .u32 (mskM e.md p.mask), .int .u32 e.ud, .int .u32 e.gd, .int .i64 e.tm, .int .i32 e.nn]] V fun r w' => r = .returned (.bool (metF (mskM e.md p.mask) e.nn)) ∧ (Ck w e p w' ∧ w'.cell? ⟨g, N, none⟩ = some (.string (mk L)))) := fun g N L V hV => (acanBe_any _ _ _ _ _ V).mono (fun r w' ⟨e1, e2⟩ => ⟨e1, hV.1.on e2, e2.cellv hV.2 (fun h => h)⟩)
  have HTF : Hid (∀ a n c V, n ≤ 140737488351232 → Ck w e p V → Calls Try.prog 19 #[.slice a n c, .string (mk e.lk), .agg p.C] V fun r w' => r = .returned (.int .i64 ((tgF n e.lk p.leav : Nat) : Int)) ∧ Nw V w') := fun a n c V hn hV => targetFault_any V a n c e.lk hn hl p
  have HS2 : Hid (∀ V, Calls Try.prog 15 #[.string (mk e.lk)] V fun r w' => ∃ a n c, r = .returned (.tuple #[.slice a n c, .int .i64 ((splE e.lk : Nat) : Int)]) ∧ Nw V w') := fun V => by
    refine (psplit_any V e.lk hl).mono ?_
    rintro r w' ⟨a, n, c, rfl, og, _, _, hN⟩
    exact ⟨a, n, c, rfl, hN⟩
  have t1 : thF p.there = true := decide_eq_true h1
  have t3 : kdF e.kind = true := decide_eq_true h3
  rw [t1] at HT
  rw [t3] at HB
  rw [h4] at HC
  unfold Ae.C Ap.C nm0 at HS
  unfold Ap.C at HM HTF
  have HK3 : Hid (1 ≤ e.kind ∧ e.kind ≤ 4) := h3
  clear h1 h2 h3 h4 t1 t3 HK0 hn hl
  generalize hmm : mskM e.md p.mask = MM at *
  clear hmm
  have KC : Hid (∀ V, Ck w e p V → _) := fun V h => And.intro (ck_cells h) (tHid h)
  unfold CkC at KC
  unfold Ae.C Ap.C
  go_enter Try.func8, Try.ntmps8
  go_upto_region 11 with (first
    | (go_at_call 14; with_reducible refine (HT.out _).mono ?_; rintro r w1 ⟨rfl, rfl⟩)
    | (go_at_call 15; (with_reducible refine HS.out.mono ?_); rintro r w2 ⟨a, nq, c, rfl, H2, g, rfl, gn, g1, g0, g2, g3, L, gL⟩; have GN := tHid gn; clear gn; obtain ⟨⟨_, _, _, _, _, _, _, _, _, _, _, _, _, _, _, _, _, _, _⟩, K2⟩ := KC.out _ H2)
    | (go_at_call 16; with_reducible refine (HB.out _).mono ?_; rintro r w3 ⟨rfl, rfl⟩)
    | (go_at_call 18; with_reducible refine (HM.out g (nq - 1) L _ ⟨K2.out, gL⟩).mono ?_; rintro r w4 ⟨rfl, H4⟩; have K4 := tHid H4)
    | (go_at_call 17; with_reducible refine (HC.out g (nq - 1) L _ K4.out).mono ?_; rintro r w5 ⟨rfl, H5, gL5⟩; obtain ⟨⟨_, _, _, _, _, _, _, _, _, _, _, _, _, _, _, _, _, _, _⟩, K5⟩ := KC.out _ H5))
  have hq0 : 0 < nq := g1
  have hq1 : (nq : Int) - 1 = ((nq - 1 : Nat) : Int) := by omega
  have gA : (w5.alloc (.cells #[.slice none 0 0, .string ⟨#[]⟩, .slice none 0 0] 40)).cell? ⟨g, nq - 1, none⟩ = some (.string (mk L)) := ((Fr.refl (fun _ => False) w5).alloc _).cellv gL5 (fun h => h)
  have gB : ((w5.alloc (.cells #[.slice none 0 0, .string ⟨#[]⟩, .slice none 0 0] 40)).drew).cell? ⟨g, nq - 1, none⟩ = some (.string (mk L)) := (((Fr.refl (fun _ => False) w5).alloc _).drew).cellv gL5 (fun h => h)
  have gC : w5.drew.cell? ⟨g, nq - 1, none⟩ = some (.string (mk L)) := ((Fr.refl (fun _ => False) w5).drew).cellv gL5 (fun h => h)
  go_region
  have hG2 : w.heap.size + 1 + 1 < w5.heap.size := (Array.getElem?_eq_some_iff.1 K5.out.nm).1
  obtain ⟨W6, hW6⟩ : ∃ W6, W6 = (w5.alloc (.cells #[.slice (some ⟨g, 0, none⟩) (nq - 1) c, .string (mk L), .slice none 0 0] 40)).drew := ⟨_, rfl⟩
  have K6' : Ck w e p W6 := by rw [hW6]; exact K5.out.on (((Fr.refl _ _).alloc _).drew)
  have R6 : Hid (W6.heap[w5.heap.size]? = some (.cells #[.slice (some ⟨g, 0, none⟩) (nq - 1) c, .string (mk L), .slice none 0 0] 40)) := by rw [hW6]; exact heap_alloc_new _ _
  rw [← hW6]
  clear hW6 gA gB gC gL5 gL K5 K4 K2 HM HC HS HT HB
  generalize w5.heap.size = G at *
  have HGN : Hid (nq = (cps e.nm).length ∧ nq ≤ 256) := ⟨GN.out, g0⟩
  clear GN g0 g1 g2 g3 hq0
  obtain ⟨r0, r1, r2, rz⟩ := names_cells R6.out
  obtain ⟨⟨_, _, _, _, _, _, _, _, _, _, _, _, _, _, _, _, _, _, _⟩, K6⟩ := KC.out _ K6'
  clear K6'
  have hk := HK3.out
  have hk4 : e.kind = 1 ∨ e.kind = 2 ∨ e.kind = 3 ∨ e.kind = 4 := by omega
  clear hk
  rcases hk4 with hk | hk | hk | hk
  · have k2 : (e.kind == 2) = false := by rw [hk]; rfl
    have k3 : (e.kind == 3) = false := by rw [hk]; rfl
    have k4 : (e.kind == 4) = false := by rw [hk]; rfl
    have HZ := tHid (HF.out 0 (by rw [HE.out, hk]; rfl) 0 rfl)
    clear hk HE HF HTF HS2
    go_wp2_with fail
    exact nret19 (w.heap.size + 1 + 1) rfl (ck_put K6.out _ _ _).1 rfl rfl (HZ.out _ _ _ _ _ _ _ _ (ck_put K6.out _ _ _).2)
  · have k2 : (e.kind == 2) = true := by rw [hk]; rfl
    by_cases hs : e.sz = (n : Int)
    · have s2 : (e.sz != (n : Int)) = false := by rw [hs]; simp
      have HZ := tHid (HF.out 0 (by rw [HE.out, hk, if_neg (by simp [hs])]; rfl) 0 rfl)
      clear hk hs HE HF HTF HS2
      go_wp2_with fail
      exact nret19 (w.heap.size + 1 + 1) rfl (ck_put K6.out _ _ _).1 rfl rfl (HZ.out _ _ _ _ _ _ _ _ (ck_put K6.out _ _ _).2)
    · have s2 : (e.sz != (n : Int)) = true := by simpa using hs
      have HZ := tHid (HF.out 192 (by rw [HE.out, if_pos ⟨hk, hs⟩]) 192 rfl)
      clear hk hs HE HF HTF HS2
      go_wp2_with fail
      exact nret19 (w.heap.size + 1 + 1) rfl (ck_put K6.out _ _ _).1 rfl rfl (HZ.out _ _ _ _ _ _ _ _ (ck_put K6.out _ _ _).2)
  · have k2 : (e.kind == 2) = false := by rw [hk]; rfl
    have k3 : (e.kind == 3) = true := by rw [hk]; rfl
    have HZ : Hid (chkF e n p = tgF (nq - 1) e.lk p.leav) := by
      show _ = _
      rw [HE.out, if_neg (by rw [hk]; simp), if_pos hk, HGN.out.1]
    have HTT := tHid (HTF.out (some ⟨g, 0, none⟩) (nq - 1) c W6 (by have := HGN.out.2; omega) K6.out)
    clear hk HE HTF HS2
    by_cases ht : tgF (nq - 1) e.lk p.leav = 0
    · rw [ht] at HZ HTT
      have HY := tHid (HF.out 0 HZ.out 0 rfl)
      clear HF HZ ht
      go_wp2_with (first
        | (go_at_call 19; with_reducible refine HTT.out.mono ?_; rintro r w7 ⟨rfl, HN7⟩; obtain ⟨⟨_, _, _, _, _, _, _, _, _, _, _, _, _, _, _, _, _, _, _⟩, K7⟩ := KC.out _ (K6.out.on HN7); obtain ⟨_, _, _, _⟩ := names_cells (HN7.heap R6.out)))
      exact nret19 (w.heap.size + 1 + 1) rfl (ck_put K7.out _ _ _).1 rfl rfl (HY.out _ _ _ _ _ _ _ _ (ck_put K7.out _ _ _).2)
    · have hd : (((tgF (nq - 1) e.lk p.leav : Nat) : Int) != 0) = true := by simp; omega
      have HY := tHid (HF.out _ HZ.out _ rfl)
      clear HF HZ ht
      generalize ((tgF (nq - 1) e.lk p.leav : Nat) : Int) = z at *
      go_wp2_with (first
        | (go_at_call 19; with_reducible refine HTT.out.mono ?_; rintro r w7 ⟨rfl, HN7⟩; obtain ⟨⟨_, _, _, _, _, _, _, _, _, _, _, _, _, _, _, _, _, _, _⟩, K7⟩ := KC.out _ (K6.out.on HN7); obtain ⟨_, _, _, _⟩ := names_cells (HN7.heap R6.out)))
      exact nret19 (w.heap.size + 1 + 1) rfl (ck_put K7.out _ _ _).1 rfl rfl (HY.out _ _ _ _ _ _ _ _ (ck_put K7.out _ _ _).2)
  · have k2 : (e.kind == 2) = false := by rw [hk]; rfl
    have k3 : (e.kind == 3) = false := by rw [hk]; rfl
    have k4 : (e.kind == 4) = true := by rw [hk]; rfl
    have HZ : Hid (chkF e n p = splE e.lk) := by
      show _ = _
      rw [HE.out, if_neg (by rw [hk]; simp), if_neg (by rw [hk]; simp), if_pos hk]
    have HSS := tHid (HS2.out W6)
    clear hk HE HTF HS2
    by_cases ht : splE e.lk = 0
    · rw [ht] at HZ HSS
      have HY := tHid (HF.out 0 HZ.out 0 rfl)
      clear HF HZ ht
      go_wp2_with (first
        | (go_at_call 15; with_reducible refine HSS.out.mono ?_; rintro r w7 ⟨a7, n7, c7, rfl, HN7⟩; obtain ⟨⟨_, _, _, _, _, _, _, _, _, _, _, _, _, _, _, _, _, _, _⟩, K7⟩ := KC.out _ (K6.out.on HN7); obtain ⟨_, _, _, _⟩ := names_cells (HN7.heap R6.out)))
      have K8 := K7.out.setG hG2 2 (.slice a7 n7 c7)
      exact nret19 (w.heap.size + 1 + 1) rfl (ck_put K8 _ _ _).1 rfl rfl (HY.out _ _ _ _ _ _ _ _ (ck_put K8 _ _ _).2)
    · have hd : (((splE e.lk : Nat) : Int) != 0) = true := by simp; omega
      have HY := tHid (HF.out _ HZ.out _ rfl)
      clear HF HZ ht
      generalize ((splE e.lk : Nat) : Int) = z at *
      go_wp2_with (first
        | (go_at_call 15; with_reducible refine HSS.out.mono ?_; rintro r w7 ⟨a7, n7, c7, rfl, HN7⟩; obtain ⟨⟨_, _, _, _, _, _, _, _, _, _, _, _, _, _, _, _, _, _, _⟩, K7⟩ := KC.out _ (K6.out.on HN7); obtain ⟨_, _, _, _⟩ := names_cells (HN7.heap R6.out)))
      have K8 := K7.out.setG hG2 2 (.slice a7 n7 c7)
      exact nret19 (w.heap.size + 1 + 1) rfl (ck_put K8 _ _ _).1 rfl rfl (HY.out _ _ _ _ _ _ _ _ (ck_put K8 _ _ _).2)
theorem checked_any (w : World) (e : Ae) (p : Ap) (hn : e.nm.length ≤ 140737488351232) (hl : e.lk.length ≤ 140737488351232) (a0 : Option Addr) (n c0 : Nat) (hnb : n ≤ 140737488351232) :
    Calls Try.prog 8 #[.agg e.C, .slice a0 n c0, .agg p.C] w (CkA (chkF e n p) w) := by
  by_cases h1 : 0 ≤ p.there ∧ p.there ≤ 2
  · by_cases h2 : splE e.nm = 0
    · by_cases h3 : 1 ≤ e.kind ∧ e.kind ≤ 4
      · by_cases h4 : metF (mskM e.md p.mask) e.nn = true
        · exact checked_good w e p hn hl a0 n c0 hnb h1 h2 h3 h4
        · exact checked_bad w e p hn _ n (.inr (.inr (.inr (by simpa using h4))))
      · exact checked_bad w e p hn _ n (.inr (.inr (.inl h3)))
    · exact checked_bad w e p hn _ n (.inr (.inl h2))
  · exact checked_bad w e p hn _ n (.inl h1)
set_option maxHeartbeats 4000000 in
theorem acheck_any (w : World) (e : Ae) (p : Ap) (hn : e.nm.length ≤ 140737488351232) (hl : e.lk.length ≤ 140737488351232) (a0 : Option Addr) (n c0 : Nat) (hnb : n ≤ 140737488351232) :
    Calls Try.prog 5 #[.agg e.C, .slice a0 n c0, .agg p.C] w fun r w' => r = .returned (.int .i64 ((chkF e n p : Nat) : Int)) ∧ Nw w w' := by
  obtain ⟨P, hP⟩ : ∃ P : Ending → World → Prop, P = fun r w' => r = .returned (.int .i64 ((chkF e n p : Nat) : Int)) ∧ Nw w w' := ⟨_, rfl⟩
  rw [← hP]
  have HF : Hid (∀ V, Nw w V → P (.returned (.int .i64 ((chkF e n p : Nat) : Int))) V) := fun V hV => by rw [hP]; exact ⟨rfl, hV⟩
  have HC : Hid (∀ V, Nw w V → Calls Try.prog 8 #[.agg e.C, .slice a0 n c0, .agg p.C] V fun r w' => ∃ a1 n1 c1 s a2 n2 c2, r = .returned (.tuple #[.agg #[.slice a1 n1 c1, .string s, .slice a2 n2 c2], .int .i64 ((chkF e n p : Nat) : Int)]) ∧ Nw w w') := fun V hV => (checked_any V e p hn hl a0 n c0 hnb).mono (fun r w' ⟨a1, n1, c1, s, a2, n2, c2, e1, e2⟩ => ⟨a1, n1, c1, s, a2, n2, c2, e1, hV.trans e2⟩)
  have HN : Hid (Nw w ((w.alloc (.cells e.C 26)).alloc (.cells p.C 29))) := ((Fr.refl _ _).alloc _).alloc _
  clear hP hn hl hnb
  generalize ((chkF e n p : Nat) : Int) = z at *
  unfold Ae.C Ap.C at *
  go_enter Try.func5, Try.ntmps5
  go_wp2_with (first
    | (go_at_call 8; with_reducible refine (HC.out _ HN.out).mono ?_; rintro r w1 ⟨a1, n1, c1, s, a2, n2, c2, rfl, HN1⟩))
  exact HF.out _ (HN1.alloc _)
end Go.Proofs.Ytoplhkpbicgceaa
