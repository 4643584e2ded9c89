import Derived.Test.YtlenihpbhlfcoaaGreatDoorUat
set_option maxHeartbeats 8000000
set_option maxRecDepth 100000
set_option linter.unusedSimpArgs false
set_option linter.unusedVariables false
namespace Go.Proofs.YtlenihpbhlfcoaaGreatDoor
open Go.RowKit
def fn (f : FuncId) : Value := .func (.func f) #[] #[]
def fP (f : Nat) : Value := if f = 3 then fn 41 else fn 40
def fV (f : Nat) : Value := .agg #[.int .i64 f, .int .i64 (fE f : Nat), fP f]
theorem has_any (a b c d : Int) (F : Value) (w : World) : Calls Tryz.prog 44 #[.agg #[.int .i64 a, .int .i64 b, F], .agg #[.int .i64 c, .int .i64 d]] w fun e w' => e = .returned (.bool (decide (c < b))) ∧ Nw w w' := by
 refine asP fun P hP => ?_
 have HF : Hid (∀ W, Nw w W → P (.returned (.bool (decide (c < b)))) W) := fun W hW => by rw [hP]; exact ⟨rfl, hW⟩
 clear hP;go_enter Tryz.func44, Tryz.ntmps44
 go_wp2_with fail
 exact HF.out _ (((Fr.refl _ _).alloc _).alloc _)
theorem magicOf_any (z : Int) (w : World) : Calls Tryz.prog 28 #[.int .i64 z] w fun e w' => e = .returned (.string (if z = 1 then str (mg 1) else if z = 2 then str (mg 2) else if z = 3 then str (mg 3) else eS)) ∧ w = w' := by
 refine asP fun P hP => ?_
 have HF : Hid (P (.returned (.string (if z = 1 then str (mg 1) else if z = 2 then str (mg 2) else if z = 3 then str (mg 3) else eS))) w) := by rw [hP]; exact ⟨rfl, rfl⟩
 clear hP;have e1 : str (mg 1) = ⟨#[0, 0, 0, 0, 0, 0, 0, 0]⟩ := by decide
 have e2 : str (mg 2) = ⟨#[117, 115, 116, 97, 114, 0, 48, 48]⟩ := by decide
 have e3 : str (mg 3) = ⟨#[117, 115, 116, 97, 114, 32, 32, 0]⟩ := by decide
 rw [e1, e2, e3] at HF;by_cases h1 : z = 1
 ·rw [if_pos h1] at HF;have q1 : (z == 1) = true := by simpa using h1
  clear h1;go_enter Tryz.func28, Tryz.ntmps28
  go_wp2_with fail
  exact HF.out
 ·rw [if_neg h1] at HF;have q1 : (z == 1) = false := by simpa using h1
  clear h1;by_cases h2 : z = 2
  ·rw [if_pos h2] at HF;have q2 : (z == 2) = true := by simpa using h2
   clear h2;go_enter Tryz.func28, Tryz.ntmps28
   go_wp2_with fail
   exact HF.out
  ·rw [if_neg h2] at HF;have q2 : (z == 2) = false := by simpa using h2
   clear h2;by_cases h3 : z = 3
   ·rw [if_pos h3] at HF;have q3 : (z == 3) = true := by simpa using h3
    clear h3;go_enter Tryz.func28, Tryz.ntmps28
    go_wp2_with fail
    exact HF.out
   ·rw [if_neg h3] at HF;have q3 : (z == 3) = false := by simpa using h3
    clear h3;go_enter Tryz.func28, Tryz.ntmps28
    go_wp2_with fail
    exact HF.out
theorem spanSize : (Tryz.prog.info? 98).map (·.size) = some (#[.int .i64 257, .int .i64 8] : Array Value).size := by kernel_rfl
theorem magic_any (w : World) : Calls Tryz.prog 46 #[] w fun e w' => e = .returned (.agg #[.int .i64 257, .int .i64 8]) ∧ w' = w.alloc (.cells #[.int .i64 257, .int .i64 8] 98) := by
 go_enter Tryz.func46, Tryz.ntmps46
 go_wp2_with fail
 refine bodyPost_ret (results_cell_row (p := 0) (ty := 98) rfl _ _ w.heap.size 98 _ _ _ rfl (newHeap _ _) Tryz.underlying98 rfl spanSize) rfl ?_;exact ⟨rfl, rfl⟩
def tX : Array Value := #[.int .i64 0, .int .i64 100, fn 65, .int .i64 157, .int .i64 100, fn 66, .int .i64 265, .int .i64 32, fn 67, .int .i64 297, .int .i64 32, fn 68, .int .i64 345, .int .i64 155, fn 69]
def nX : Array Value := #[.int .i64 100, .int .i64 8, fn 71, .bool false, .int .i64 108, .int .i64 8, fn 72, .bool false, .int .i64 116, .int .i64 8, fn 73, .bool false, .int .i64 124, .int .i64 12, fn 74, .bool false, .int .i64 136, .int .i64 12, fn 75, .bool true, .int .i64 329, .int .i64 8, fn 76, .bool false, .int .i64 337, .int .i64 8, fn 77, .bool false]
theorem texts_any (w : World) : Calls Tryz.prog 42 #[] w fun e w' => e = .returned (.slice (some ⟨w.heap.size, 0, none⟩) 5 5) ∧ w' = w.alloc (.cells tX 101) := by
 refine asP fun P hP => ?_
 have HF : Hid (P (.returned (.slice (some ⟨w.heap.size, 0, none⟩) 5 5)) (w.alloc (.cells tX 101))) := by rw [hP]; exact ⟨rfl, rfl⟩
 clear hP;go_enter Tryz.func42, Tryz.ntmps42
 go_wp2_with fail
 exact HF.out
theorem numbers_any (w : World) : Calls Tryz.prog 45 #[] w fun e w' => e = .returned (.slice (some ⟨w.heap.size, 0, none⟩) 7 7) ∧ w' = w.alloc (.cells nX 109) := by
 refine asP fun P hP => ?_
 have HF : Hid (P (.returned (.slice (some ⟨w.heap.size, 0, none⟩) 7 7)) (w.alloc (.cells nX 109))) := by rw [hP]; exact ⟨rfl, rfl⟩
 clear hP;go_enter Tryz.func45, Tryz.ntmps45
 go_wp2_with fail
 exact HF.out
theorem tx1_any (g : Nat) (w : World) : Calls Tryz.prog 65 #[.pointer (some ⟨g, 0, none⟩)] w fun e w' => e = .returned (.pointer (some ⟨g, 1, none⟩)) ∧ w' = w := by
 go_enter Tryz.func65, Tryz.ntmps65
 go_wp2_with fail
 first | exact ⟨rfl, rfl⟩ | (go_ret; exact ⟨rfl, rfl⟩)
theorem tx2_any (g : Nat) (w : World) : Calls Tryz.prog 66 #[.pointer (some ⟨g, 0, none⟩)] w fun e w' => e = .returned (.pointer (some ⟨g, 9, none⟩)) ∧ w' = w := by
 go_enter Tryz.func66, Tryz.ntmps66
 go_wp2_with fail
 first | exact ⟨rfl, rfl⟩ | (go_ret; exact ⟨rfl, rfl⟩)
theorem tx3_any (g : Nat) (w : World) : Calls Tryz.prog 67 #[.pointer (some ⟨g, 0, none⟩)] w fun e w' => e = .returned (.pointer (some ⟨g, 10, none⟩)) ∧ w' = w := by
 go_enter Tryz.func67, Tryz.ntmps67
 go_wp2_with fail
 first | exact ⟨rfl, rfl⟩ | (go_ret; exact ⟨rfl, rfl⟩)
theorem tx4_any (g : Nat) (w : World) : Calls Tryz.prog 68 #[.pointer (some ⟨g, 0, none⟩)] w fun e w' => e = .returned (.pointer (some ⟨g, 11, none⟩)) ∧ w' = w := by
 go_enter Tryz.func68, Tryz.ntmps68
 go_wp2_with fail
 first | exact ⟨rfl, rfl⟩ | (go_ret; exact ⟨rfl, rfl⟩)
theorem tx5_any (g : Nat) (w : World) : Calls Tryz.prog 69 #[.pointer (some ⟨g, 0, none⟩)] w fun e w' => e = .returned (.pointer (some ⟨g, 2, none⟩)) ∧ w' = w := by
 go_enter Tryz.func69, Tryz.ntmps69
 go_wp2_with fail
 first | exact ⟨rfl, rfl⟩ | (go_ret; exact ⟨rfl, rfl⟩)
theorem nx1_any (g : Nat) (w : World) : Calls Tryz.prog 71 #[.pointer (some ⟨g, 0, none⟩)] w fun e w' => e = .returned (.pointer (some ⟨g, 3, none⟩)) ∧ w' = w := by
 go_enter Tryz.func71, Tryz.ntmps71
 go_wp2_with fail
 first | exact ⟨rfl, rfl⟩ | (go_ret; exact ⟨rfl, rfl⟩)
theorem nx2_any (g : Nat) (w : World) : Calls Tryz.prog 72 #[.pointer (some ⟨g, 0, none⟩)] w fun e w' => e = .returned (.pointer (some ⟨g, 4, none⟩)) ∧ w' = w := by
 go_enter Tryz.func72, Tryz.ntmps72
 go_wp2_with fail
 first | exact ⟨rfl, rfl⟩ | (go_ret; exact ⟨rfl, rfl⟩)
theorem nx3_any (g : Nat) (w : World) : Calls Tryz.prog 73 #[.pointer (some ⟨g, 0, none⟩)] w fun e w' => e = .returned (.pointer (some ⟨g, 5, none⟩)) ∧ w' = w := by
 go_enter Tryz.func73, Tryz.ntmps73
 go_wp2_with fail
 first | exact ⟨rfl, rfl⟩ | (go_ret; exact ⟨rfl, rfl⟩)
theorem nx4_any (g : Nat) (w : World) : Calls Tryz.prog 74 #[.pointer (some ⟨g, 0, none⟩)] w fun e w' => e = .returned (.pointer (some ⟨g, 6, none⟩)) ∧ w' = w := by
 go_enter Tryz.func74, Tryz.ntmps74
 go_wp2_with fail
 first | exact ⟨rfl, rfl⟩ | (go_ret; exact ⟨rfl, rfl⟩)
theorem nx5_any (g : Nat) (w : World) : Calls Tryz.prog 75 #[.pointer (some ⟨g, 0, none⟩)] w fun e w' => e = .returned (.pointer (some ⟨g, 7, none⟩)) ∧ w' = w := by
 go_enter Tryz.func75, Tryz.ntmps75
 go_wp2_with fail
 first | exact ⟨rfl, rfl⟩ | (go_ret; exact ⟨rfl, rfl⟩)
theorem nx6_any (g : Nat) (w : World) : Calls Tryz.prog 76 #[.pointer (some ⟨g, 0, none⟩)] w fun e w' => e = .returned (.pointer (some ⟨g, 12, none⟩)) ∧ w' = w := by
 go_enter Tryz.func76, Tryz.ntmps76
 go_wp2_with fail
 first | exact ⟨rfl, rfl⟩ | (go_ret; exact ⟨rfl, rfl⟩)
theorem nx7_any (g : Nat) (w : World) : Calls Tryz.prog 77 #[.pointer (some ⟨g, 0, none⟩)] w fun e w' => e = .returned (.pointer (some ⟨g, 13, none⟩)) ∧ w' = w := by
 go_enter Tryz.func77, Tryz.ntmps77
 go_wp2_with fail
 first | exact ⟨rfl, rfl⟩ | (go_ret; exact ⟨rfl, rfl⟩)
def fZ : Value := .agg #[.int .i64 0, .int .i64 0, .nilFunc]
theorem fV_inj {a b : Nat} (h : fV a = fV b) : a = b := by
 unfold fV at h;injection h with h;have := congrArg (·[0]?) h;simp at this;omega
theorem fV_ne_fZ {a : Nat} (h : a ≠ 0) : fV a ≠ fZ := fun e => by
 unfold fV fZ at e;injection e with e;have := congrArg (·[0]?) e;simp at this;omega
open Classical in
noncomputable def RFm (u : Value) : Option (DataW Unit × List MemPlace) :=
 if u = fV 1 then some (.lit (.int .i64 1), []) else if u = fV 2 then some (.lit (.int .i64 2), []) else if u = fV 3 then some (.lit (.int .i64 3), []) else if u = fZ then some (.lit (.bool false), []) else none
noncomputable def MF : MT (List UInt8) Nat := { kt := 9, et := 72, mt := 74, kv := fun k => .string ⟨⟨k⟩⟩, kl := fun k => .string k, kok := fun k => k.length ≤ 140737488351232, ev := fV, ed := fun f => .lit (.int .i64 f), eok := isF, zv := fZ, zd := .lit (.bool false), R := RFm }
theorem mfOk : MF.Ok where
 keyed := Maps.string_keyed Tryz.underlying9
 und := Tryz.underlying74
 keq := fun k hk => by
  have := WideMaps.keyOf_string_mk (P := Tryz.prog) (k := 9) Tryz.underlying9 (s := ⟨⟨k⟩⟩) (by
   have e : (⟨⟨k⟩⟩ : ByteArray).size = k.length := rfl;simp only [MF] at hk; rw [e]; unfold maxLen; omega)
  exact this
 kinj := fun k k' _ _ h => by simp only [MF] at h; injection h
 eR := fun v hv => by
  have h12 : fV 2 ≠ fV 1 := fun e => by have := fV_inj e; omega
  have h13 : fV 3 ≠ fV 1 := fun e => by have := fV_inj e; omega
  have h23 : fV 3 ≠ fV 2 := fun e => by have := fV_inj e; omega
  show RFm (fV v) = some (.lit (.int .i64 v), []);unfold RFm;rcases hv with rfl | rfl | rfl
  ·rw [if_pos rfl]; rfl
  ·rw [if_neg h12, if_pos rfl]; rfl
  ·rw [if_neg h13, if_neg h23, if_pos rfl]; rfl
 einv := fun u v ps hv h => by
  have h' : RFm u = some (.lit (.int .i64 (v : Nat)), ps) := h;show u = fV v;unfold RFm at h';split at h'
  ·next q => simp only [Option.some.injEq, Prod.mk.injEq, DataW.lit.injEq, Lit.int.injEq, true_and] at h'; rw [q]; congr 1; omega
  ·split at h'
   ·next q => simp only [Option.some.injEq, Prod.mk.injEq, DataW.lit.injEq, Lit.int.injEq, true_and] at h'; rw [q]; congr 1; omega
   ·split at h'
    ·next q => simp only [Option.some.injEq, Prod.mk.injEq, DataW.lit.injEq, Lit.int.injEq, true_and] at h'; rw [q]; congr 1; omega
    ·split at h'
     ·simp only [Option.some.injEq, Prod.mk.injEq, DataW.lit.injEq] at h'; cases h'.1
     ·cases h'
 zR := by
  show RFm fZ = _;unfold RFm;rw [if_neg (fun e => fV_ne_fZ (by decide) e.symm), if_neg (fun e => fV_ne_fZ (by decide) e.symm), if_neg (fun e => fV_ne_fZ (by decide) e.symm), if_pos rfl];rfl
 zinv := fun u ps h => by
  have h' : RFm u = some (.lit (.bool false), ps) := h;show u = fZ;unfold RFm at h';split at h'
  ·simp only [Option.some.injEq, Prod.mk.injEq, DataW.lit.injEq] at h'; cases h'.1
  ·split at h'
   ·simp only [Option.some.injEq, Prod.mk.injEq, DataW.lit.injEq] at h'; cases h'.1
   ·split at h'
    ·simp only [Option.some.injEq, Prod.mk.injEq, DataW.lit.injEq] at h'; cases h'.1
    ·split at h'
     ·next q => exact q
     ·cases h'
 zero := fun w => by kernel_rfl
def mk1 : List UInt8 := [0, 0, 0, 0, 0, 0, 0, 0]
def mk2 : List UInt8 := [117, 115, 116, 97, 114, 0, 48, 48]
def mk3 : List UInt8 := [117, 115, 116, 97, 114, 32, 32, 0]
def mF (k : List UInt8) : Option Nat := if k = mk3 then some 3 else if k = mk2 then some 2 else if k = mk1 then some 1 else none
theorem forms_any (w : World) : Calls Tryz.prog 27 #[] w fun e w' => e = .returned (.map (some w.heap.size)) ∧ Nw w w' ∧ Mp MF w.heap.size mF 3 w' := by
 refine asP fun P hP => ?_
 have M0 : Mp MF w.heap.size (fun _ => none) 0 (w.alloc (.map #[] 0)) := Mp.made w;obtain ⟨W1, r1, m1, f1⟩ := M0.store mfOk mk1 (by show (8 : Nat) ≤ _; omega) 1 (.inl rfl) (by omega);have M1 := m1 (fun k => if k = mk1 then some 1 else none) (fun x _ => rfl);obtain ⟨W2, r2, m2, f2⟩ := M1.store mfOk mk2 (by show (8 : Nat) ≤ _; omega) 2 (.inr (.inl rfl)) (by decide);have M2 := m2 (fun k => if k = mk2 then some 2 else if k = mk1 then some 1 else none) (fun x _ => rfl);obtain ⟨W3, r3, m3, f3⟩ := M2.store mfOk mk3 (by show (8 : Nat) ≤ _; omega) 3 (.inr (.inr rfl)) (by decide)
 have M3 := m3 mF (fun x _ => rfl);have n0 : Nw w (w.alloc (.map #[] 0)) := (Fr.refl _ _).alloc _;have n1 : Nw w W1 := Fr.then n0 f1 (fun i hi => .inr (by omega));have n2 : Nw w W2 := Fr.then n1 f2 (fun i hi => .inr (by omega));have n3 : Nw w W3 := Fr.then n2 f3 (fun i hi => .inr (by omega));have HF : Hid (P (.returned (.map (some w.heap.size))) W3) := by
  rw [hP];exact ⟨rfl, n3, M3⟩
 have q1 : (Instr.mapUpdate 74 (.map (some w.heap.size)) (.string ⟨#[0, 0, 0, 0, 0, 0, 0, 0]⟩) (.agg #[.int .i64 1, .int .i64 257, .func (.func 40) #[] #[]])).run Tryz.prog (w.alloc (.map #[] 0)) = .ok () W1 := r1;have q2 : (Instr.mapUpdate 74 (.map (some w.heap.size)) (.string ⟨#[117, 115, 116, 97, 114, 0, 48, 48]⟩) (.agg #[.int .i64 2, .int .i64 500, .func (.func 40) #[] #[]])).run Tryz.prog W1 = .ok () W2 := r2
 have q3 : (Instr.mapUpdate 74 (.map (some w.heap.size)) (.string ⟨#[117, 115, 116, 97, 114, 32, 32, 0]⟩) (.agg #[.int .i64 3, .int .i64 345, .func (.func 41) #[] #[]])).run Tryz.prog W2 = .ok () W3 := r3;have q0 : (Instr.makeMap 74 none).run Tryz.prog w = .ok (.map (some w.heap.size)) (w.alloc (.map #[] 0)) := by simp [Instr.makeMap]
 clear hP M0 m1 M1 m2 M2 m3 M3 n0 n1 n2 n3 r1 r2 r3 f1 f2 f3;go_enter Tryz.func27, Tryz.ntmps27
 go_wp2_with fail
 exact HF.out
theorem of_any (o n g : Nat) (b : List By) (w : World) (hb : b.length = 512) (hn : 0 < n) (hon : o + n ≤ 512) (hg : RcH g b w) : Calls Tryz.prog 47 #[.agg #[.int .i64 (o : Nat), .int .i64 (n : Nat)], .pointer (some ⟨g, 0, none⟩)] w fun e w' => e = .returned (.slice (some ⟨g, o, none⟩) n (512 - o)) ∧ Nw w w' := by
 refine asP fun P hP => ?_
 have HF : Hid (∀ m W, m = n → Nw w W → P (.returned (.slice (some ⟨g, o, none⟩) m (512 - o))) W) := fun m W hm hW => by rw [hP, hm]; exact ⟨rfl, hW⟩
 clear hP;have z1 : (o : Int) ≤ (o : Int) + (n : Int) := by omega
 have z2 : (o : Int) + (n : Int) ≤ 512 := by omega
 have z3 : ¬ 512 - o = 0 := by omega
 have z4 : ¬ o = 512 := by omega
 have z5 : ¬ 512 ≤ o := by omega
 have hg2 := tHid hg;clear hg;go_enter Tryz.func47, Tryz.ntmps47;go_upto_region 1 with fail
 go_quiet (fail)
 go_wp2_with fail
 exact HF.out (o + n - o) _ (by omega) (((Fr.refl _ _).alloc _).drewN _)
theorem may_any (o n z : Int) (F : Value) (bl : Bool) (w : World) : Calls Tryz.prog 79 #[.agg #[.int .i64 o, .int .i64 n, F, .bool bl], .int .i64 z] w fun e w' => e = .returned (.bool (decide (0 ≤ z) || bl)) ∧ Nw w w' := by
 refine asP fun P hP => ?_
 have HF : Hid (∀ W, Nw w W → P (.returned (.bool (decide (0 ≤ z) || bl))) W) := fun W hW => by rw [hP]; exact ⟨rfl, hW⟩
 clear hP;by_cases h : 0 ≤ z
 ·rw [decide_eq_true h] at HF;go_enter Tryz.func79, Tryz.ntmps79
  go_wp2_with fail
  exact HF.out _ ((Fr.refl _ _).alloc _)
 ·rw [decide_eq_false h] at HF;go_enter Tryz.func79, Tryz.ntmps79
  go_wp2_with fail
  exact HF.out _ ((Fr.refl _ _).alloc _)
theorem cpy_nil (w : World) (A : Addr) (n c : Nat) : ∀ ty, (cpyT #[22, 22] ty #[.slice (some A) n c, .slice none 0 0]).run Tryz.prog w = .ok (.int .i64 0) w := fun ty => by
 obtain ⟨i, hi, hz, hsz, hby⟩ := infoB;exact run_copy_none w 22 22 ty 5 (some A) none n c 0 0 Tryz.underlying22 (by rw [hi]; simp [hsz]) (by simp)
theorem RcH.setRow {g : Nat} {b : List By} {w : World} (h : RcH g b w) (l : List By) : RcH g l (w.setRow g (rc l)) := setRow_heap _ _ _ _ 58 _ h
theorem cell_kept {X : Nat → Prop} {w w' : World} (f : Fr X w w') {g : Nat} {o : Obj} (h : w.heap[g]? = some o) (hx : ¬ X g) : w'.heap[g]? = some o := (f.block g (Array.getElem?_eq_some_iff.1 h).1 hx).trans h
theorem cell_of {w : World} {g : Nat} {a : Array Value} {T : Nat} (h : w.heap[g]? = some (.cells a T)) (j : Nat) (v : Value) (hv : a[j]? = some v) : w.cell? ⟨g, j, none⟩ = some v := by
 simp [World.cell?, h, hv]
def PtO (ok : Bool) (g : Nat) (b : List By) (o : Nat) (l : List By) (w : World) (e : Ending) (w' : World) : Prop :=
 e = .returned (.bool ok) ∧ Hid (∃ b', b'.length = 512 ∧ (ok = true → b' = pt b o l) ∧ RcH g b' w' ∧ Fr (fun k => k = g) w w')
theorem put_copy {E : Nat} {L : List By} {w w1 : World} {a : Option Addr} {m c : Nat} (h : (E ≠ 0 ∧ a = none ∧ m = 0 ∧ c = 0) ∨ (E = 0 ∧ ∃ g, w.heap.size ≤ g ∧ Ow g (.slice a m c) L w1)) (g o n : Nat) (b : List By) (hb : b.length = 512) (hon : o + n ≤ 512) (hL : E = 0 → L.length = n) (w2 : World) (h2 : Nw w1 w2) (hg : RcH g b w2) :
  ∃ W3 z, (∀ ty, (cpyT #[22, 22] ty #[.slice (some ⟨g, o, none⟩) n (512 - o), .slice a m c]).run Tryz.prog w2 = .ok (.int .i64 z) W3) ∧ RcH g (if E = 0 then pt b o L else b) W3 ∧ Fr (fun k => k = g) w2 W3 := by
 by_cases hE : E = 0
 ·rw [if_pos hE];obtain ⟨g2, ea, hO, e1, e2, e3⟩ := put_sl h hE;subst ea;have hS : Rd g2 0 L w2 := by
   obtain ⟨o', c', e, _, _, hr⟩ := (hO.nw h2).slb;injection e with ea _ _;injection ea with ea;injection ea with _ eo;have eo' : o' = 0 := eo.symm;subst eo';exact hr
  have hm : m = n := by rw [← e1]; exact hL hE
  have c1 := copy_recB w2 g o n (512 - o) b g2 m c L hg e1 (by omega) (by omega) hS;refine ⟨_, _, c1, ?_, (Fr.refl _ _).setRow _ _ (.inl rfl)⟩;have := hg.setRow (pt b o L);unfold pt at this ⊢;rw [e1] at this ⊢;exact this
 ·rw [if_neg hE];rcases h with ⟨_, rfl, rfl, rfl⟩ | ⟨e, _⟩
  ·exact ⟨w2, 0, cpy_nil w2 _ n (512 - o), hg, Fr.refl _ _⟩
  ·exact absurd e hE
section
attribute [local go_sem ↓] cpyT_fold
theorem tput_any (o n g : Nat) (F : Value) (s : ByteArray) (b : List By) (w : World) (hb : b.length = 512) (hn : 0 < n) (hon : o + n ≤ 512) (hg : RcH g b w) (hs : s.size ≤ 140737488351232) :
  Calls Tryz.prog 48 #[.agg #[.int .i64 (o : Nat), .int .i64 (n : Nat), F], .pointer (some ⟨g, 0, none⟩), .string s] w (PtO (decide (pxE s n = 0)) g b o (pxL s n) w) := by
 refine asP fun P hP => ?_
 obtain ⟨W1, hW1⟩ : ∃ W1, w.alloc (.cells #[.int .i64 (o : Nat), .int .i64 (n : Nat), F] 101) = W1 := ⟨_, rfl⟩;have hB : W1.heap[w.heap.size]? = some (.cells #[.int .i64 (o : Nat), .int .i64 (n : Nat), F] 101) := by rw [← hW1]; exact newHeap _ _
 have hN1 : Nw w W1 := by rw [← hW1]; exact (Fr.refl _ _).alloc _
 have HPT : Hid (Calls Tryz.prog 78 #[.string s, .int .i64 (n : Nat)] W1 fun e w1 => ∃ a m c, e = .returned (.tuple #[.slice a m c, .int .i64 (pxE s n : Nat)]) ∧ w1.cell? ⟨w.heap.size, 0, none⟩ = some (.int .i64 (o : Nat)) ∧ w1.cell? ⟨w.heap.size, 1, none⟩ = some (.int .i64 (n : Nat)) ∧ Hid (Calls Tryz.prog 47 #[.agg #[.int .i64 (o : Nat), .int .i64 (n : Nat)], .pointer (some ⟨g, 0, none⟩)] w1 fun e w2 => e = .returned (.slice (some ⟨g, o, none⟩) n (512 - o)) ∧ ∃ W3 z, (∀ ty, (cpyT #[22, 22] ty #[.slice (some ⟨g, o, none⟩) n (512 - o), .slice a m c]).run Tryz.prog w2 = .ok (.int .i64 z) W3) ∧ Hid (P (.returned (.bool (decide (pxE s n = 0)))) W3))) := by
  refine (putText_any s n W1 hs).mono ?_;rintro e w1 ⟨a, m, c, rfl, k1, k2⟩;have hB1 := k1.heap hB;refine ⟨a, m, c, rfl, cell_of hB1 0 _ rfl, cell_of hB1 1 _ rfl, ?_⟩;refine (of_any o n g b w1 hb hn hon ((hg.kept hN1 (fun h => h)).kept k1 (fun h => h))).mono ?_;rintro e w2 ⟨rfl, k3⟩;have hg2 : RcH g b w2 := ((hg.kept hN1 (fun h => h)).kept k1 (fun h => h)).kept k3 (fun h => h);obtain ⟨W3, z, c1, c2, c3⟩ := put_copy k2 g o n b hb hon (fun hE => px_length s n hE) w2 k3 hg2;refine ⟨rfl, W3, z, c1, ?_⟩;show P _ _;rw [hP]
  refine ⟨rfl, _, ?_, fun hk => ?_, c2, Fr.then (Fr.mono ((hN1.trans k1).trans k3) (fun i hi => hi.elim)) c3 (fun i hi => .inl hi)⟩
  ·split
   ·next hE => rw [pt_length _ _ _ (by rw [px_length s n hE, hb]; exact hon)]; exact hb
   ·exact hb
  ·rw [if_pos (of_decide_eq_true hk)]
 have hW1' := tHid hW1;have b1 : W1.cell? ⟨w.heap.size, 1, none⟩ = some (.int .i64 (n : Nat)) := cell_of hB 1 _ rfl;clear hP hg hB hN1 hW1;generalize pxE s n = E at *;have hEq : ((E : Int) == 0) = decide (E = 0) := by
  by_cases h : E = 0
  ·rw [decide_eq_true h, h]; rfl
  ·rw [decide_eq_false h, beq_eq_false_iff_ne]; omega
 go_enter Tryz.func48, Tryz.ntmps48
 go_upto_region 1 with fail
 rw [hW1'.out]
 go_wp2_with (first
  | (go_at_call 78; with_reducible refine HPT.out.mono ?_; rintro e w1 ⟨a, m, c, rfl, k0, k1, K2⟩)
  | (go_at_call 47; with_reducible refine K2.out.mono ?_; rintro e w2 ⟨rfl, W3, z, hc, K3⟩))
 exact K3.out
theorem nput_any (f o n g : Nat) (F : Value) (bl : Bool) (x : Int) (b : List By) (w : World) (hb : b.length = 512) (hn : 0 < n) (hon : o + n ≤ 512) (hg : RcH g b w) (hx : i64 x) :
  Calls Tryz.prog 49 #[.agg #[.int .i64 (o : Nat), .int .i64 (n : Nat), F, .bool bl], .pointer (some ⟨g, 0, none⟩), .int .i64 x, fP f] w (PtO (decide (nE f x n = 0) && (decide (0 ≤ x) || bl)) g b o (nL f x n) w) := by
 refine asP fun P hP => ?_
 obtain ⟨W1, hW1⟩ : ∃ W1, w.alloc (.cells #[.int .i64 (o : Nat), .int .i64 (n : Nat), F, .bool bl] 109) = W1 := ⟨_, rfl⟩;have hB : W1.heap[w.heap.size]? = some (.cells #[.int .i64 (o : Nat), .int .i64 (n : Nat), F, .bool bl] 109) := by rw [← hW1]; exact newHeap _ _
 have hN1 : Nw w W1 := by rw [← hW1]; exact (Fr.refl _ _).alloc _
 have key : ∀ (e : Ending) (w1 : World), PutA (nE f x n) (nL f x n) W1 e w1 → ∃ a m c, e = .returned (.tuple #[.slice a m c, .int .i64 (nE f x n : Nat)]) ∧ w1.cell? ⟨w.heap.size, 0, none⟩ = some (.int .i64 (o : Nat)) ∧ w1.cell? ⟨w.heap.size, 1, none⟩ = some (.int .i64 (n : Nat)) ∧ Hid (Calls Tryz.prog 47 #[.agg #[.int .i64 (o : Nat), .int .i64 (n : Nat)], .pointer (some ⟨g, 0, none⟩)] w1 fun e w2 => e = .returned (.slice (some ⟨g, o, none⟩) n (512 - o)) ∧ ∃ W3 z, (∀ ty, (cpyT #[22, 22] ty #[.slice (some ⟨g, o, none⟩) n (512 - o), .slice a m c]).run Tryz.prog w2 = .ok (.int .i64 z) W3) ∧ W3.cell? ⟨w.heap.size, 0, none⟩ = some (.int .i64 (o : Nat)) ∧ W3.cell? ⟨w.heap.size, 1, none⟩ = some (.int .i64 (n : Nat)) ∧ W3.cell? ⟨w.heap.size, 2, none⟩ = some F ∧ W3.cell? ⟨w.heap.size, 3, none⟩ = some (.bool bl) ∧ Hid (∀ W4, Nw W3 W4 → P (.returned (.bool (decide (nE f x n = 0) && (decide (0 ≤ x) || bl)))) W4)) := by
  rintro e w1 ⟨a, m, c, rfl, k1, k2⟩;have hB1 := k1.heap hB;refine ⟨a, m, c, rfl, cell_of hB1 0 _ rfl, cell_of hB1 1 _ rfl, ?_⟩;refine (of_any o n g b w1 hb hn hon ((hg.kept hN1 (fun h => h)).kept k1 (fun h => h))).mono ?_;rintro e w2 ⟨rfl, k3⟩;have hg2 : RcH g b w2 := ((hg.kept hN1 (fun h => h)).kept k1 (fun h => h)).kept k3 (fun h => h);obtain ⟨W3, z, c1, c2, c3⟩ := put_copy k2 g o n b hb hon (fun hE => nL_length f x n hx hE) w2 k3 hg2;have hB3 := cell_kept c3 (k3.heap hB1) (fun e => by have := hg.lt; omega)
  refine ⟨rfl, W3, z, c1, cell_of hB3 0 _ rfl, cell_of hB3 1 _ rfl, cell_of hB3 2 _ rfl, cell_of hB3 3 _ rfl, fun W4 h4 => ?_⟩;rw [hP];refine ⟨rfl, _, ?_, fun hk => ?_, c2.kept h4 (fun h => h), Fr.then (Fr.then (Fr.mono ((hN1.trans k1).trans k3) (fun i hi => hi.elim)) c3 (fun i hi => .inl hi)) h4 (fun i hi => hi.elim)⟩
  ·split
   ·next hE => rw [pt_length _ _ _ (by rw [nL_length f x n hx hE, hb]; exact hon)]; exact hb
   ·exact hb
  ·rw [Bool.and_eq_true] at hk;rw [if_pos (of_decide_eq_true hk.1)]
 have hW1' := tHid hW1;have b1 : W1.cell? ⟨w.heap.size, 1, none⟩ = some (.int .i64 (n : Nat)) := cell_of hB 1 _ rfl;have HM := tHid (fun V => may_any (o : Nat) (n : Nat) x F bl V);by_cases hf : f = 3
 ·have hfp : fP f = .func (.func 41) #[] #[] := by unfold fP; rw [if_pos hf]; rfl
  have HPN := tHid ((putNumber_any x n W1 hx.1 hx.2).mono (fun e w1 h => key e w1 (by unfold nE nL; rw [if_pos hf, if_pos hf]; exact h)));rw [hfp];clear hP hg hB hN1 hW1 key hfp hf;generalize nE f x n = E at *;by_cases hz : E = 0
  ·subst hz;rw [decide_eq_true (rfl : (0 : Nat) = 0), Bool.true_and] at HPN;go_enter Tryz.func49, Tryz.ntmps49;go_upto_region 1 with fail;rw [hW1'.out]
   go_wp2_with (first
    | (go_at_call 41; with_reducible refine HPN.out.mono ?_; rintro e w1 ⟨a, m, c, rfl, k0, k1, K2⟩)
    | (go_at_call 47; with_reducible refine K2.out.mono ?_; rintro e w2 ⟨rfl, W3, z, hc, y0, y1, y2, y3, K3⟩)
    | (go_at_call 79; with_reducible refine (HM.out _).mono ?_; rintro e w4 ⟨rfl, K4⟩))
   exact K3.out _ K4
  ·have hq : ((E : Int) == 0) = false := by rw [beq_eq_false_iff_ne]; omega
   rw [decide_eq_false hz, Bool.false_and] at HPN;go_enter Tryz.func49, Tryz.ntmps49;go_upto_region 1 with fail;rw [hW1'.out]
   go_wp2_with (first
    | (go_at_call 41; with_reducible refine HPN.out.mono ?_; rintro e w1 ⟨a, m, c, rfl, k0, k1, K2⟩)
    | (go_at_call 47; with_reducible refine K2.out.mono ?_; rintro e w2 ⟨rfl, W3, z, hc, y0, y1, y2, y3, K3⟩))
   exact K3.out _ (Fr.refl _ _)
 ·have hfp : fP f = .func (.func 40) #[] #[] := by unfold fP; rw [if_neg hf]; rfl
  have HPN := tHid ((putOctal_any x n W1 hx.1 hx.2).mono (fun e w1 h => key e w1 (by unfold nE nL; rw [if_neg hf, if_neg hf]; exact h)));rw [hfp];clear hP hg hB hN1 hW1 key hfp hf;generalize nE f x n = E at *;by_cases hz : E = 0
  ·subst hz;rw [decide_eq_true (rfl : (0 : Nat) = 0), Bool.true_and] at HPN;go_enter Tryz.func49, Tryz.ntmps49;go_upto_region 1 with fail;rw [hW1'.out]
   go_wp2_with (first
    | (go_at_call 40; with_reducible refine HPN.out.mono ?_; rintro e w1 ⟨a, m, c, rfl, k0, k1, K2⟩)
    | (go_at_call 47; with_reducible refine K2.out.mono ?_; rintro e w2 ⟨rfl, W3, z, hc, y0, y1, y2, y3, K3⟩)
    | (go_at_call 79; with_reducible refine (HM.out _).mono ?_; rintro e w4 ⟨rfl, K4⟩))
   exact K3.out _ K4
  ·have hq : ((E : Int) == 0) = false := by rw [beq_eq_false_iff_ne]; omega
   rw [decide_eq_false hz, Bool.false_and] at HPN;go_enter Tryz.func49, Tryz.ntmps49;go_upto_region 1 with fail;rw [hW1'.out]
   go_wp2_with (first
    | (go_at_call 40; with_reducible refine HPN.out.mono ?_; rintro e w1 ⟨a, m, c, rfl, k0, k1, K2⟩)
    | (go_at_call 47; with_reducible refine K2.out.mono ?_; rintro e w2 ⟨rfl, W3, z, hc, y0, y1, y2, y3, K3⟩))
   exact K3.out _ (Fr.refl _ _)
end
end Go.Proofs.YtlenihpbhlfcoaaGreatDoor
