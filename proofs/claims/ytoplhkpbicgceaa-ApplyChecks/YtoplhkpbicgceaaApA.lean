import Derived.Test.YtoplhkpbicgceaaPvB
import Derived.Test.YtoplhkpbicgceaaPvD
import Derived.Test.YtoplhkpbicgceaaVfA
namespace Go.Proofs.Ytoplhkpbicgceaa
open Go.RowKit
set_option linter.unusedVariables false
set_option maxRecDepth 100000
/-! ### An entry by itself (apply) -/
structure Ae where
  nm : Tx
  kind : Int
  md : Int
  ud : Int
  gd : Int
  tm : Int
  nn : Int
  us : ByteArray
  gr : ByteArray
  lk : Tx
  sz : Int
  ty : Int
structure Ap where
  there : Int
  par : Bool
  mask : Int
  leav : Bool
def Ae.C (e : Ae) : Array Value := #[.string (Go.Proofs.Ytoplhkpbicgceaa.mk e.nm), .int .i64 e.kind, .int .u32 e.md, .int .u32 e.ud, .int .u32 e.gd, .int .i64 e.tm, .int .i32 e.nn, .string e.us, .string e.gr, .string (Go.Proofs.Ytoplhkpbicgceaa.mk e.lk), .int .i64 e.sz, .int .u8 e.ty]
def Ap.C (p : Ap) : Array Value := #[.int .i64 p.there, .bool p.par, .int .u32 p.mask, .bool p.leav]
/-- What the meta's mode becomes. -/
def mskM (a b : Int) : Int := bits .andNot .u32 a b
def metF (md nn : Int) : Bool := decide (md ≤ 4095) && decide (0 ≤ nn) && decide (nn < 1000000000)
def tgF (d : Nat) (l : Tx) (lv : Bool) : Nat := if tgOk l = false then 107 else if lv = false ∧ lvF d l = true then 190 else 0
/-- What is wrong with an entry by itself, n bytes beside it. -/
def chkF (e : Ae) (n : Nat) (p : Ap) : Nat :=
  if ¬ (0 ≤ p.there ∧ p.there ≤ 2) then 1
  else if splE e.nm ≠ 0 then splE e.nm
  else if ¬ (1 ≤ e.kind ∧ e.kind ≤ 4) then 193
  else if metF (mskM e.md p.mask) e.nn = false then 1
  else if e.kind = 2 ∧ e.sz ≠ n then 192
  else if e.kind = 3 then tgF ((cps e.nm).length - 1) e.lk p.leav
  else if e.kind = 4 then splE e.lk
  else 0
def thF (z : Int) : Bool := decide (0 ≤ z ∧ z ≤ 2)
def kdF (z : Int) : Bool := decide (1 ≤ z ∧ z ≤ 4)
set_option maxHeartbeats 2000000 in
theorem isThere_any (z : Int) (w : World) : Calls Try.prog 14 #[.int .i64 z] w fun e w' => e = .returned (.bool (thF z)) ∧ w = w' := by
  obtain ⟨P, hP⟩ : ∃ P : Ending → World → Prop, P = fun e w' => e = .returned (.bool (thF z)) ∧ w = w' := ⟨_, rfl⟩
  rw [← hP]
  have HF : Hid (∀ b, thF z = b → P (.returned (.bool b)) w) := fun b hb => by rw [hP, hb]; exact ⟨rfl, rfl⟩
  clear hP
  by_cases h0 : z = 0
  · subst h0
    go_enter Try.func14, Try.ntmps14
    go_wp2_with fail
    exact HF.out _ (by unfold thF; decide)
  · by_cases h1 : z = 1
    · subst h1
      go_enter Try.func14, Try.ntmps14
      go_wp2_with fail
      exact HF.out _ (by unfold thF; decide)
    · by_cases h2 : z = 2
      · subst h2
        go_enter Try.func14, Try.ntmps14
        go_wp2_with fail
        exact HF.out _ (by unfold thF; decide)
      · have e0 : (z == 0) = false := by rw [beq_eq_false_iff_ne]; exact h0
        have e1 : (z == 1) = false := by rw [beq_eq_false_iff_ne]; exact h1
        have e2 : (z == 2) = false := by rw [beq_eq_false_iff_ne]; exact h2
        have HZ : Hid (thF z = false) := by show _ = _; unfold thF; exact decide_eq_false (by omega)
        clear h0 h1 h2
        go_enter Try.func14, Try.ntmps14
        go_wp2_with fail
        exact HF.out _ HZ.out
set_option maxHeartbeats 2000000 in
theorem isBroughtOut_any (z : Int) (w : World) : Calls Try.prog 16 #[.int .i64 z] w fun e w' => e = .returned (.bool (kdF z)) ∧ w = w' := by
  obtain ⟨P, hP⟩ : ∃ P : Ending → World → Prop, P = fun e w' => e = .returned (.bool (kdF z)) ∧ w = w' := ⟨_, rfl⟩
  rw [← hP]
  have HF : Hid (∀ b, kdF z = b → P (.returned (.bool b)) w) := fun b hb => by rw [hP, hb]; exact ⟨rfl, rfl⟩
  clear hP
  by_cases hk : 1 ≤ z ∧ z ≤ 4
  · have hc : z = 1 ∨ z = 2 ∨ z = 3 ∨ z = 4 := by omega
    clear hk
    rcases hc with rfl | rfl | rfl | rfl
    all_goals
      go_enter Try.func16, Try.ntmps16
      go_wp2_with fail
      exact HF.out _ (by unfold kdF; decide)
  · have e1 : (z == 1) = false := by rw [beq_eq_false_iff_ne]; omega
    have e2 : (z == 2) = false := by rw [beq_eq_false_iff_ne]; omega
    have e3 : (z == 3) = false := by rw [beq_eq_false_iff_ne]; omega
    have e4 : (z == 4) = false := by rw [beq_eq_false_iff_ne]; omega
    have HZ : Hid (kdF z = false) := by show _ = _; unfold kdF; exact decide_eq_false hk
    clear hk
    go_enter Try.func16, Try.ntmps16
    go_wp2_with fail
    exact HF.out _ HZ.out
set_option maxHeartbeats 4000000 in
theorem acanBe_any (md ud gd time nano : Int) (w : World) : Calls Try.prog 17 #[.agg #[.int .u32 md, .int .u32 ud, .int .u32 gd, .int .i64 time, .int .i32 nano]] w fun e w' => e = .returned (.bool (metF md nano)) ∧ Nw w w' := by
  unfold metF
  obtain ⟨P, hP⟩ : ∃ P : Ending → World → Prop, P = fun e w' => e = .returned (.bool (decide (md ≤ 4095) && decide (0 ≤ nano) && decide (nano < 1000000000))) ∧ Nw w w' := ⟨_, rfl⟩
  rw [← hP]
  have HF : Hid (∀ V, Nw w V → P (.returned (.bool (decide (md ≤ 4095) && decide (0 ≤ nano) && decide (nano < 1000000000)))) V) := fun V hV => by rw [hP]; exact ⟨rfl, hV⟩
  clear hP
  by_cases h1 : md ≤ 4095
  · rw [decide_eq_true h1] at HF
    by_cases h2 : 0 ≤ nano
    · rw [decide_eq_true h2] at HF
      simp only [Bool.true_and] at HF
      have h1d := decide_eq_true h1
      have h2d := decide_eq_true h2
      by_cases h3 : nano < 1000000000
      · rw [decide_eq_true h3] at HF
        have h3d := decide_eq_true h3
        go_enter Try.func17, Try.ntmps17
        go_wp2_with fail
        exact HF.out _ ((Fr.refl _ _).alloc _)
      · rw [decide_eq_false h3] at HF
        have h3d := decide_eq_false h3
        go_enter Try.func17, Try.ntmps17
        go_wp2_with fail
        exact HF.out _ ((Fr.refl _ _).alloc _)
    · rw [decide_eq_false h2] at HF
      simp only [Bool.true_and, Bool.false_and] at HF
      have h1d := decide_eq_true h1
      have h2d := decide_eq_false h2
      go_enter Try.func17, Try.ntmps17
      go_wp2_with fail
      exact HF.out _ ((Fr.refl _ _).alloc _)
  · rw [decide_eq_false h1] at HF
    simp only [Bool.false_and] at HF
    have h1d := decide_eq_false h1
    go_enter Try.func17, Try.ntmps17
    go_wp2_with fail
    exact HF.out _ ((Fr.refl _ _).alloc _)
set_option maxHeartbeats 4000000 in
theorem rmeta_any (md ud gd time nano : Int) (w : World) : Calls Try.prog 10 #[.agg #[.int .u32 md, .int .u32 ud, .int .u32 gd, .int .i64 time, .int .i32 nano]] w fun e w' => e = .returned (.bool (metF md nano)) ∧ Nw w w' := by
  have he : metF md nano = (decide (md ≤ 4095) && decide (0 ≤ nano) && decide (nano ≤ 999999999)) := by
    unfold metF
    by_cases h : nano < 1000000000
    · rw [decide_eq_true h, decide_eq_true (by omega : nano ≤ 999999999)]
    · rw [decide_eq_false h, decide_eq_false (by omega : ¬ nano ≤ 999999999)]
  rw [he]
  obtain ⟨P, hP⟩ : ∃ P : Ending → World → Prop, P = fun e w' => e = .returned (.bool (decide (md ≤ 4095) && decide (0 ≤ nano) && decide (nano ≤ 999999999))) ∧ Nw w w' := ⟨_, rfl⟩
  rw [← hP]
  have HF : Hid (∀ V, Nw w V → P (.returned (.bool (decide (md ≤ 4095) && decide (0 ≤ nano) && decide (nano ≤ 999999999)))) V) := fun V hV => by rw [hP]; exact ⟨rfl, hV⟩
  clear hP he
  by_cases h1 : md ≤ 4095
  · rw [decide_eq_true h1] at HF
    by_cases h2 : 0 ≤ nano
    · rw [decide_eq_true h2] at HF
      simp only [Bool.true_and] at HF
      have h1d := decide_eq_true h1
      have h2d := decide_eq_true h2
      by_cases h3 : nano ≤ 999999999
      · rw [decide_eq_true h3] at HF
        have h3d := decide_eq_true h3
        go_enter Try.func10, Try.ntmps10
        go_wp2_with fail
        exact HF.out _ ((Fr.refl _ _).alloc _)
      · rw [decide_eq_false h3] at HF
        have h3d := decide_eq_false h3
        go_enter Try.func10, Try.ntmps10
        go_wp2_with fail
        exact HF.out _ ((Fr.refl _ _).alloc _)
    · rw [decide_eq_false h2] at HF
      simp only [Bool.true_and, Bool.false_and] at HF
      have h1d := decide_eq_true h1
      have h2d := decide_eq_false h2
      go_enter Try.func10, Try.ntmps10
      go_wp2_with fail
      exact HF.out _ ((Fr.refl _ _).alloc _)
  · rw [decide_eq_false h1] at HF
    simp only [Bool.false_and] at HF
    have h1d := decide_eq_false h1
    go_enter Try.func10, Try.ntmps10
    go_wp2_with fail
    exact HF.out _ ((Fr.refl _ _).alloc _)
theorem al3 (w : World) (o1 o2 o3 : Obj) : (((w.alloc o1).alloc o2).alloc o3).heap[w.heap.size + 1 + 1]? = some o3 := by
  have h : ((w.alloc o1).alloc o2).heap.size = w.heap.size + 1 + 1 := by simp
  rw [← h]; exact heap_alloc_new _ _
theorem al34 (w : World) (o1 o2 o3 o4 : Obj) : ((((w.alloc o1).alloc o2).alloc o3).alloc o4).heap[w.heap.size + 1 + 1]? = some o3 :=
  (Below.heap_alloc _ _ _ (by simp)).trans (al3 _ _ _ _)
theorem metaSize : (Try.prog.info? 24).map (·.size) = some 5 := by kernel_rfl
set_option maxHeartbeats 4000000 in
theorem amasked_any (md ud gd time nano : Int) (p : Ap) (w : World) : Calls Try.prog 18 #[.agg #[.int .u32 md, .int .u32 ud, .int .u32 gd, .int .i64 time, .int .i32 nano], .agg p.C] w fun e w' => e = .returned (.agg #[.int .u32 (mskM md p.mask), .int .u32 ud, .int .u32 gd, .int .i64 time, .int .i32 nano]) ∧ Nw w w' := by
  obtain ⟨P, hP⟩ : ∃ P : Ending → World → Prop, P = fun e w' => e = .returned (.agg #[.int .u32 (mskM md p.mask), .int .u32 ud, .int .u32 gd, .int .i64 time, .int .i32 nano]) ∧ Nw w w' := ⟨_, rfl⟩
  rw [← hP]
  have HF : Hid (∀ V, Nw w V → P (.returned (.agg #[.int .u32 (mskM md p.mask), .int .u32 ud, .int .u32 gd, .int .i64 time, .int .i32 nano])) V) := fun V hV => by rw [hP]; exact ⟨rfl, hV⟩
  clear hP
  have hm : bits .andNot .u32 md p.mask = mskM md p.mask := rfl
  unfold Ap.C
  generalize mskM md p.mask = M at *
  generalize p.mask = K at *
  go_enter Try.func18, Try.ntmps18
  go_wp2_with fail
  refine bodyPost_ret (results_cell_row (P := Try.prog) (p := 4) (ty := 24) rfl _ _ (w.heap.size + 1 + 1) 24 #[.int .u32 M, .int .u32 ud, .int .u32 gd, .int .i64 time, .int .i32 nano] (0, 0) _ rfl (al3 _ _ _ _) Try.underlying24 rfl metaSize) rfl ?_
  exact HF.out _ ((((Fr.refl _ _).alloc _).alloc _).alloc _)
set_option maxHeartbeats 4000000 in
theorem rmetaE_any (e : Ae) (p : Ap) (w : World) : Calls Try.prog 11 #[.agg e.C, .agg p.C] w fun r w' => r = .returned (.agg #[.int .u32 (mskM e.md p.mask), .int .u32 e.ud, .int .u32 e.gd, .int .i64 e.tm, .int .i32 e.nn]) ∧ Nw w w' := by
  obtain ⟨P, hP⟩ : ∃ P : Ending → World → Prop, P = fun r w' => r = .returned (.agg #[.int .u32 (mskM e.md p.mask), .int .u32 e.ud, .int .u32 e.gd, .int .i64 e.tm, .int .i32 e.nn]) ∧ Nw w w' := ⟨_, rfl⟩
  rw [← hP]
  have HF : Hid (∀ V, Nw w V → P (.returned (.agg #[.int .u32 (mskM e.md p.mask), .int .u32 e.ud, .int .u32 e.gd, .int .i64 e.tm, .int .i32 e.nn])) V) := fun V hV => by rw [hP]; exact ⟨rfl, hV⟩
  clear hP
  have hm : bits .andNot .u32 e.md p.mask = mskM e.md p.mask := rfl
  unfold Ap.C Ae.C
  generalize mskM e.md p.mask = M at *
  generalize p.mask = K at *
  go_enter Try.func11, Try.ntmps11
  go_wp2_with fail
  refine bodyPost_ret (results_cell_row (P := Try.prog) (p := 4) (ty := 24) rfl _ _ (w.heap.size + 1 + 1) 24 #[.int .u32 M, .int .u32 e.ud, .int .u32 e.gd, .int .i64 e.tm, .int .i32 e.nn] (0, 0) _ rfl (al34 _ _ _ _ _) Try.underlying24 rfl metaSize) rfl ?_
  exact HF.out _ (((((Fr.refl _ _).alloc _).alloc _).alloc _).alloc _)
end Go.Proofs.Ytoplhkpbicgceaa
