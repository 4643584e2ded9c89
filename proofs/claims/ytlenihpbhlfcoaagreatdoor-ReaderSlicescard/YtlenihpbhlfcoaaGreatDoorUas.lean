import Derived.Test.YtlenihpbhlfcoaaGreatDoorUar
import Derived.Test.YtlenihpbhlfcoaaGreatDoorUan
set_option maxHeartbeats 8000000
set_option maxRecDepth 100000
set_option linter.unusedSimpArgs false
set_option linter.unusedVariables false
namespace Go.Proofs.YtlenihpbhlfcoaaGreatDoor
open Go.RowKit
theorem newG_from {w w' : World} {v : Value} {l : List Rg} {V : World} (h : NewG w' v l V) (hs : w.heap.size ≤ w'.heap.size) : NewG w v l V := by
 obtain ⟨og, h1, h2⟩ := h;exact ⟨og, h1, fun g e => Nat.le_trans hs (h2 g e)⟩
theorem results_t4 {fn : Func} {t u v x : Tmp} (h : fn.results = #[.tmp t, .tmp u, .tmp v, .tmp x]) (tmps : Array Value) (P : Program) (w : World) : (results fn tmps).run P w = .ok (.tuple #[tmps.getD t undef, tmps.getD u undef, tmps.getD v undef, tmps.getD x undef]) w := by
 simp [results, h]
def roE (R : List By) : Nat := if (rdO R 4 386 []).2 ≠ 0 then (rdO R 4 386 []).2 else (szN ((R.drop 483).take 12)).2
def RoA (w : World) (R : List By) (e : Ending) (V : World) : Prop := ∃ a m c B N, e = .returned (.tuple #[.slice a m c, .int .i64 (N : Int), .bool B, .int .i64 (roE R : Int)]) ∧ Hid (Nw w V ∧ (roE R = 0 → NewG w (.slice a m c) (rgL (rdO R 4 386 []).1) V ∧ B = decide (R.getD 482 0 ≠ 0#8) ∧ N = ((szN ((R.drop 483).take 12)).1 : Int)) ∧ (roE R ≠ 0 → a = none ∧ m = 0 ∧ c = 0 ∧ B = false ∧ N = 0))
theorem RcO.sl {g : Nat} {R : List By} {w : World} (h : RcO g R w) (hl : R.length = 512) (o : Nat) (ho : o < 512) : Sl (fun _ => False) (.slice (some ⟨g, o, none⟩) (512 - o) (512 - o)) (R.drop o) w := by
 refine .inr ⟨g, fun h => h, o, 512 - o, ?_, ?_, by omega, ?_⟩
 ·rw [List.length_drop, hl]
 ·rw [List.length_drop, hl]; exact Nat.le_refl _
 ·intro j hj;rw [List.length_drop] at hj;have := h.at (o + j) (by omega);rw [this, List.getElem_drop]
theorem sl483 (g : Nat) (W : World) : (Instr.sliceAt 58 (.pointer (some ⟨g, 0, none⟩)) (some (.int .i64 483)) none none).run Tryz.prog W = .ok (.slice (some ⟨g, 483, none⟩) 29 29) W := by
 have hal : Tryz.prog.arrayLen 58 = 512 := by simp [Program.arrayLen, Tryz.underlying58]
 rw [run_sliceAt_array_l W 58 ⟨g, 0, none⟩ (by simp [Program.arrayLen, Program.elem, Tryz.underlying58]) .i64 483 (by omega) (by rw [hal]; omega)];go_simp
theorem readOld_any (w : World) (R : List By) (hR : R.length = 512) : Calls Tryz.prog 117 #[.agg (rc R)] w (RoA w R) := by
 refine asP fun P hP => ?_
 obtain ⟨g, hg⟩ : ∃ g, w.heap.size = g := ⟨_, rfl⟩;obtain ⟨W1, hW1⟩ : ∃ W1, w.alloc (.cells (rc R) 58) = W1 := ⟨_, rfl⟩;have hN1 : Nw w W1 := by rw [← hW1]; exact (Fr.refl _ _).alloc _
 have hr1 : RcO g R W1 := by rw [← hW1, ← hg]; exact nHeap _ _
 have HRd : Hid (∀ V, Nw W1 V → Calls Tryz.prog 147 #[.agg #[.int .i64 386, .int .i64 4], .pointer (some ⟨g, 0, none⟩)] V (KrA V R 386 4 (rdO R 4 386 []))) := fun V hV => kread_any V g R hR (Nw.heap hV hr1) 386 4 (by omega)
 unfold KrA at HRd;have HNu : Hid (∀ V, Nw W1 V → Calls Tryz.prog 148 #[.slice (some ⟨g, 483, none⟩) 29 29] V fun e w' => e = .returned (.tuple #[.int .i64 ((szN ((R.drop 483).take 12)).1 : Int), .int .i64 ((szN ((R.drop 483).take 12)).2 : Int)]) ∧ Hid (Nw V w')) := fun V hV => xnumber_any V g 483 29 29 _ (RcO.sl (Nw.heap hV hr1) hR 483 (by omega)) (by omega)
 have HBad : Hid (∀ V (e : Nat), Nw w V → roE R = e → e ≠ 0 → P (.returned (.tuple #[.slice none 0 0, .int .i64 0, .bool false, .int .i64 (e : Int)])) V) := fun V e h1 h2 h3 => by
  rw [hP];exact ⟨none, 0, 0, false, 0, by rw [h2], h1, fun h => absurd (h2 ▸ h) h3, fun _ => ⟨rfl, rfl, rfl, rfl, rfl⟩⟩
 have HOk : Hid (∀ V a m c B (N : Nat), Nw w V → roE R = 0 → NewG w (.slice a m c) (rgL (rdO R 4 386 []).1) V → B = decide (R.getD 482 0 ≠ 0#8) → N = (szN ((R.drop 483).take 12)).1 → P (.returned (.tuple #[.slice a m c, .int .i64 (N : Int), .bool B, .int .i64 0])) V) := fun V a m c B N h1 h2 h3 h4 h5 => by
  rw [hP];exact ⟨a, m, c, B, _, by rw [h2]; rfl, h1, fun _ => ⟨h3, h4, by rw [h5]⟩, fun h => absurd h2 h⟩
 have hroE : roE R = if (rdO R 4 386 []).2 ≠ 0 then (rdO R 4 386 []).2 else (szN ((R.drop 483).take 12)).2 := rfl
 have HFi := tHid first_any;have hsl := sl483 g;have HN1 := tHid hN1;clear hP hr1 hN1;generalize (rdO R 4 386 []).2 = E1 at *;generalize szN ((R.drop 483).take 12) = S at *;obtain ⟨N2, E2⟩ := S;simp only at HNu HOk hroE;generalize rc R = C at *;by_cases h1 : E1 = 0
 ·subst h1;rw [if_neg (by simp)] at hroE;by_cases h2 : E2 = 0
  ·subst h2;go_enter Tryz.func117, Tryz.ntmps117
   go_wp2_with (first
    | (go_at_call 146; with_reducible refine (HFi.out _).mono ?_; rintro e w2 ⟨rfl, H2⟩)
    | (go_at_call 147; with_reducible refine (HRd.out _ H2.out).mono ?_; rintro e w3 ⟨a, m, c, B, rfl, H3⟩; have HN3 := tHid (H2.out.trans H3.out.1))
    | (go_at_call 148; with_reducible refine (HNu.out _ HN3.out).mono ?_; rintro e w4 ⟨rfl, H4⟩))
   have HE := tHid (HOk.out w4 a m c B N2 (HN1.out.trans (HN3.out.trans H4.out)) hroE (newG_from ((H3.out.2.1 (by first | trivial | rfl)).1.nw H4.out) (HN1.out.trans H2.out).size) (H3.out.2.1 (by first | trivial | rfl)).2 rfl);first | exact HE.out | (go_ret; exact HE.out) | (refine bodyPost_ret (results_t4 rfl _ _ _) rfl ?_; exact HE.out)
  ·have h2i : ¬ ((E2 : Int) = 0) := by omega
   go_enter Tryz.func117, Tryz.ntmps117
   go_wp2_with (first
    | (go_at_call 146; with_reducible refine (HFi.out _).mono ?_; rintro e w2 ⟨rfl, H2⟩)
    | (go_at_call 147; with_reducible refine (HRd.out _ H2.out).mono ?_; rintro e w3 ⟨a, m, c, B, rfl, H3⟩; have HN3 := tHid (H2.out.trans H3.out.1))
    | (go_at_call 148; with_reducible refine (HNu.out _ HN3.out).mono ?_; rintro e w4 ⟨rfl, H4⟩))
   have HE := tHid (HBad.out w4 E2 (HN1.out.trans (HN3.out.trans H4.out)) hroE h2);first | exact HE.out | (go_ret; exact HE.out) | (refine bodyPost_ret (results_t4 rfl _ _ _) rfl ?_; exact HE.out)
 ·rw [if_pos h1] at hroE;have h1i : ¬ ((E1 : Int) = 0) := by omega
  go_enter Tryz.func117, Tryz.ntmps117
  go_wp2_with (first
   | (go_at_call 146; with_reducible refine (HFi.out _).mono ?_; rintro e w2 ⟨rfl, H2⟩)
   | (go_at_call 147; with_reducible refine (HRd.out _ H2.out).mono ?_; rintro e w3 ⟨a, m, c, B, rfl, H3⟩; have HN3 := tHid (H2.out.trans H3.out.1)))
  have HE := tHid (HBad.out w3 E1 (HN1.out.trans HN3.out) hroE h1);first | exact HE.out | (go_ret; exact HE.out) | (refine bodyPost_ret (results_t4 rfl _ _ _) rfl ?_; exact HE.out)
def RmA (w : World) (R : List By) (e : Ending) (V : World) : Prop := ∃ a m c B, e = .returned (.tuple #[.slice a m c, .bool B, .int .i64 ((rdO R 21 0 []).2 : Int)]) ∧ Hid (Nw w V ∧ ((rdO R 21 0 []).2 = 0 → NewG w (.slice a m c) (rgL (rdO R 21 0 []).1) V ∧ B = decide (R.getD 504 0 ≠ 0#8)) ∧ ((rdO R 21 0 []).2 ≠ 0 → a = none ∧ m = 0 ∧ c = 0 ∧ B = false))
theorem readMore_any (w : World) (R : List By) (hR : R.length = 512) : Calls Tryz.prog 118 #[.agg (rc R)] w (RmA w R) := by
 refine asP fun P hP => ?_
 obtain ⟨g, hg⟩ : ∃ g, w.heap.size = g := ⟨_, rfl⟩;obtain ⟨W1, hW1⟩ : ∃ W1, w.alloc (.cells (rc R) 58) = W1 := ⟨_, rfl⟩;have hN1 : Nw w W1 := by rw [← hW1]; exact (Fr.refl _ _).alloc _
 have hr1 : RcO g R W1 := by rw [← hW1, ← hg]; exact nHeap _ _
 have HRd : Hid (∀ V, Nw W1 V → Calls Tryz.prog 147 #[.agg #[.int .i64 0, .int .i64 21], .pointer (some ⟨g, 0, none⟩)] V (KrA V R 0 21 (rdO R 21 0 []))) := fun V hV => kread_any V g R hR (Nw.heap hV hr1) 0 21 (by omega)
 unfold KrA at HRd;have HOk : Hid (∀ V U a m c B, Nw w V → Nw V U → ((rdO R 21 0 []).2 = 0 → NewG V (.slice a m c) (rgL (rdO R 21 0 []).1) U ∧ B = decide (R.getD (0 + 21 * 24) 0 ≠ 0#8)) → ((rdO R 21 0 []).2 ≠ 0 → a = none ∧ m = 0 ∧ c = 0 ∧ B = false) → P (.returned (.tuple #[.slice a m c, .bool B, .int .i64 ((rdO R 21 0 []).2 : Int)])) U) := fun V U a m c B h1 h2 h3 h4 => by
  rw [hP];exact ⟨a, m, c, B, rfl, h1.trans h2, fun h => ⟨newG_from (h3 h).1 h1.size, (h3 h).2⟩, h4⟩
 have HFi := tHid further_any;have HN1 := tHid hN1;clear hP hr1 hN1;generalize (rdO R 21 0 []).2 = E1 at *;generalize rc R = C at *;go_enter Tryz.func118, Tryz.ntmps118
 go_wp2_with (first
  | (go_at_call 149; with_reducible refine (HFi.out _).mono ?_; rintro e w2 ⟨rfl, H2⟩)
  | (go_at_call 147; with_reducible refine (HRd.out _ H2.out).mono ?_; rintro e w3 ⟨a, m, c, B, rfl, H3⟩))
 have HE := tHid (HOk.out w2 w3 a m c B (HN1.out.trans H2.out) H3.out.1 H3.out.2.1 H3.out.2.2);first | exact HE.out | (go_ret; exact HE.out) | (refine bodyPost_ret (results_tmp3 rfl _ _ _) rfl ?_; exact HE.out)
theorem rc1_badN {b : Bs} {n e : Nat} (h : rc1 b = .bad n e) : n ≤ b.length := by
 unfold rc1 at h;split at h
 ·injection h with h1 h2; omega
 split at h
 ·injection h with h1 h2; omega
 split at h
 ·injection h with h1 h2; omega
 rename_i h1 h2 h3;have hg := la_good b (by have := la_why 0 0 b; omega);split at h
 ·injection h with h1 h2; omega
 split at h
 ·injection h with h1 h2; omega
 ·split at h
  ·cases h
  ·injection h with h1 h2; omega
theorem prs_within (b : Bs) : ∀ (k p : Nat) (acc : List Pr), b.length - p ≤ k → p ≤ b.length → (prs b p acc).2.1 ≤ b.length := by
 intro k
 induction k with
 | zero => intro p acc hk hp; rw [prs_end b p acc (by omega)]; simp
 | succ k ih =>
  intro p acc hk hp;by_cases h : p < b.length
  ·cases hr : rc1 (b.drop p) with
   | bad n e =>
    rw [prs_bad b p acc h n e hr];have := rc1_badN hr;rw [List.length_drop] at this;simp only; omega
   | ok x n =>
    rw [prs_ok b p acc h x n hr];have := rc1_ok hr;rw [List.length_drop] at this;exact ih _ _ (by omega) (by omega)
  ·rw [prs_end b p acc h]; simp
theorem prs_le (d : Bs) : (prs d 0 []).2.1 ≤ d.length := prs_within d _ 0 [] (Nat.le_refl _) (Nat.zero_le _)
theorem scN_le (b : List By) (f : Nat) (l : List (Nat × Nat × Bool)) (h : ∀ x ∈ l, x.1 ≤ 512) : (scN b f l).1 ≤ 512 := by
 induction l with
 | nil => simp [scN]
 | cons x r ih =>
  obtain ⟨o, n, bl⟩ := x;rw [scN];split
  ·exact h (o, n, bl) (by simp)
  ·exact ih (fun y hy => h y (by simp [hy]))
theorem decP_le (b : Bs) : decP b ≤ 512 := by
 unfold decP;split
 ·split
  ·omega
  ·exact scN_le b _ nF (by decide)
 ·omega
end Go.Proofs.YtlenihpbhlfcoaaGreatDoor
namespace Go.Proofs.YtlenihpbhlfcoaaGreatDoor
structure Ah where
 loc : List Pr
 name : Option ByteArray
 link : Option ByteArray
def ah0 : Ah := ⟨[], none, none⟩
structure It where
 name : ByteArray
 kind : Nat
 mode : Nat
 uid : Nat
 gid : Nat
 time : Int
 nano : Nat
 user : ByteArray
 group : ByteArray
 link : ByteArray
 size : Int
 typ : By
 form : Int
 htyp : By
 frm : Nat
 head : Nat
 data : Nat
 next : Nat
 held : Nat
 sparse : Bool
 map : List Rg
 pairs : List Pr
def tkR (s : List By) (o z : Nat) : Option (List By × Nat) := if o + z + padN z ≤ s.length then some (fd s o z, o + z + padN z) else none
inductive Out where
 | fin
 | bad (p e : Nat)
 | on (L : Nat) (g : Bool) (G : List Pr) (A : Ah)
 | got (x : It) (L : Nat)
def isTl (t : By) : Bool := decide (t = 103#8) || decide (t = 120#8) || decide (t = 76#8) || decide (t = 75#8)
def psR (s : List By) (h : Hr) (G : List Pr) (A : Ah) : Out :=
 if 1048576 < h.size then .bad 0 2 else
 match tkR s 512 h.size.toNat with
 | none => .bad s.length 4
 | some (d, L) =>
  if h.typ = 103#8 then
   if (prs d 0 []).2.2 ≠ 0 then .bad (512 + (prs d 0 []).2.1) (prs d 0 []).2.2
   else if 1024 < (mergeV G (prs d 0 []).1).length then .bad 0 2 else .on L true (mergeV G (prs d 0 []).1) A
  else if h.typ = 120#8 then
   if (prs d 0 []).2.2 ≠ 0 then .bad (512 + (prs d 0 []).2.1) (prs d 0 []).2.2
   else if 1024 < (A.loc ++ (prs d 0 []).1).length then .bad 0 2 else .on L false G { A with loc := A.loc ++ (prs d 0 []).1 }
  else if h.typ = 76#8 then .on L false G { A with name := some (str (txt d)) }
  else .on L false G { A with link := some (str (txt d)) }
def kSize : Bs := [115#8, 105#8, 122#8, 101#8]
def kUid : Bs := [117#8, 105#8, 100#8]
def kGid : Bs := [103#8, 105#8, 100#8]
def kMtime : Bs := [109#8, 116#8, 105#8, 109#8, 101#8]
def kPath : Bs := [112#8, 97#8, 116#8, 104#8]
def kLinkpath : Bs := [108#8, 105#8, 110#8, 107#8, 112#8, 97#8, 116#8, 104#8]
def kUname : Bs := [117#8, 110#8, 97#8, 109#8, 101#8]
def kGname : Bs := [103#8, 110#8, 97#8, 109#8, 101#8]
def kGnu : Bs := [71#8, 78#8, 85#8, 46#8, 115#8, 112#8, 97#8, 114#8, 115#8, 101#8, 46#8]
def kMajor : Bs := kGnu ++ [109#8, 97#8, 106#8, 111#8, 114#8]
def kMinor : Bs := kGnu ++ [109#8, 105#8, 110#8, 111#8, 114#8]
def kName : Bs := kGnu ++ [110#8, 97#8, 109#8, 101#8]
def kReal : Bs := kGnu ++ [114#8, 101#8, 97#8, 108#8, 115#8, 105#8, 122#8, 101#8]
def nbP (P : List Pr) (k : Bs) (n : Nat) : Nat × Nat := match fndV P k with
 | some v => numV v
 | none => (n, 0)
def idP (P : List Pr) (k : Bs) (n : Nat) : Nat × Nat := if (nbP P k n).2 ≠ 0 then nbP P k n else if 4294967295 < (nbP P k n).1 then (0, 121) else nbP P k n
def tmP (P : List Pr) (t : Int) : Int × Nat × Nat := match fndV P kMtime with
 | some v => timV v
 | none => (t, 0, 0)
def txP14 (P : List Pr) (k : Bs) (o : ByteArray) : ByteArray := match fndV P k with
 | some v => str v
 | none => o
def slE (s : ByteArray) : Bool := decide (0 < s.size) && decide (s.data.toList.getLast? = some 47)
def kdR (h : Hr) (name : ByteArray) : Nat :=
 if h.typ = 48#8 then (if slE name = true then 1 else 2)
 else if h.typ = 49#8 then 4
 else if h.typ = 50#8 then 3
 else if h.typ = 53#8 then 1
 else if h.typ = 55#8 then 2
 else if h.typ = 83#8 ∧ h.form = 3 then 2
 else 5
def hasD (t : By) : Bool := decide (t.toNat < 49) || decide (54 < t.toNat)
inductive Om where
 | bad (p e : Nat)
 | ok (l : List Rg) (o : Nat)
def omR (s : List By) (o : Nat) (more : Bool) (l : List Rg) : Om :=
 if more = true then
  if h : s.length < o + 512 then .bad s.length 4
  else if (rdO (fd s o 512) 21 0 []).2 ≠ 0 then .bad o (rdO (fd s o 512) 21 0 []).2
  else omR s (o + 512) (decide ((fd s o 512).getD 504 0 ≠ 0#8)) (l ++ rgL (rdO (fd s o 512) 21 0 []).1)
 else .ok l o
termination_by s.length - o
def isOl (h : Hr) : Bool := decide (h.typ = 83#8) && decide (h.form = 3)
def hdP (G : List Pr) (A : Ah) : List Pr := if A.loc = [] then G else mergeV G A.loc
def hasM (k : Nat) (P : List Pr) : Bool := decide (k = 2) && (decide (txP14 P kMajor (str []) = str [49#8]) && decide (txP14 P kMinor (str []) = str [48#8]))
def itR (h : Hr) (P : List Pr) (A : Ah) (z uid gid : Nat) (t : Int × Nat × Nat) : It :=
 {name := txP14 P kPath (A.name.getD (nmF h)), kind := kdR h (txP14 P kPath (A.name.getD (nmF h))), mode := (h.mode % 4096).toNat, uid := uid, gid := gid, time := t.1, nano := t.2.1, user := txP14 P kUname h.user, group := txP14 P kGname h.group,
  link := if kdR h (txP14 P kPath (A.name.getD (nmF h))) = 3 ∨ kdR h (txP14 P kPath (A.name.getD (nmF h))) = 4 then txP14 P kLinkpath (A.link.getD h.link) else str [],
  size := 0, typ := if kdR h (txP14 P kPath (A.name.getD (nmF h))) = 5 then h.typ else 0#8, form := h.form, htyp := h.typ, frm := 0, head := 0, data := 0, next := 0, held := if hasD h.typ = true then z else 0, sparse := false, map := [], pairs := P }
def bdR (s : List By) (h : Hr) (P : List Pr) (x : It) (l : List Rg) (w : Int) (o : Nat) : Out :=
 match tkR s o x.held with
 | none => .bad s.length 4
 | some (d, L) =>
  if isOl h = true then
   if vld l w = true ∧ hld l = d.length then .got { x with data := o, next := L, sparse := true, map := l, size := if x.kind = 2 then w else 0 } L else .bad 0 161
  else if hasM x.kind P = true then
   if (numV ((fndV P kReal).getD [])).2 ≠ 0 then .bad 0 (numV ((fndV P kReal).getD [])).2
   else if (rdT d).2.2 ≠ 0 then .bad o (rdT d).2.2
   else if vld (rgL (rdT d).1) (numV ((fndV P kReal).getD [])).1 = true ∧ hld (rgL (rdT d).1) = (d.drop (rdT d).2.1).length then
    .got { x with name := txP14 P kName x.name, data := o, next := L, sparse := true, map := rgL (rdT d).1, size := (numV ((fndV P kReal).getD [])).1 } L
   else .bad 0 161
  else .got { x with data := o, next := L, size := if x.kind = 2 then w else 0 } L
def enR (s : List By) (h : Hr) (G : List Pr) (A : Ah) : Out :=
 if (nbP (hdP G A) kSize h.size.toNat).2 ≠ 0 then .bad 0 (nbP (hdP G A) kSize h.size.toNat).2 else
 if (idP (hdP G A) kUid h.uid.toNat).2 ≠ 0 then .bad 0 (idP (hdP G A) kUid h.uid.toNat).2 else
 if (idP (hdP G A) kGid h.gid.toNat).2 ≠ 0 then .bad 0 (idP (hdP G A) kGid h.gid.toNat).2 else
 if (tmP (hdP G A) h.time).2.2 ≠ 0 then .bad 0 (tmP (hdP G A) h.time).2.2 else
 if isOl h = true then
  if roE (fd s 0 512) ≠ 0 then .bad 0 (roE (fd s 0 512)) else
  match omR s 512 (decide ((fd s 0 512).getD 482 0 ≠ 0#8)) (rgL (rdO (fd s 0 512) 4 386 []).1) with
  | .bad p e => .bad p e
  | .ok l o => bdR s h (hdP G A) (itR h (hdP G A) A (nbP (hdP G A) kSize h.size.toNat).1 (idP (hdP G A) kUid h.uid.toNat).1 (idP (hdP G A) kGid h.gid.toNat).1 (tmP (hdP G A) h.time)) l ((szN (((fd s 0 512).drop 483).take 12)).1 : Int) o
 else bdR s h (hdP G A) (itR h (hdP G A) A (nbP (hdP G A) kSize h.size.toNat).1 (idP (hdP G A) kUid h.uid.toNat).1 (idP (hdP G A) kGid h.gid.toNat).1 (tmP (hdP G A) h.time)) [] ((nbP (hdP G A) kSize h.size.toNat).1 : Int) 512
def cor (s : List By) (G : List Pr) (A : Ah) : Out :=
 if s = [] then .fin else
 if s.length < 512 then .bad s.length 4 else
 if fd s 0 512 = zrec then .fin else
 if decE (fd s 0 512) ≠ 0 then .bad (decP (fd s 0 512)) (decE (fd s 0 512)) else
 if isTl (decH (fd s 0 512)).typ = true then psR s (decH (fd s 0 512)) G A else enR s (decH (fd s 0 512)) G A
theorem pad_mod (z : Nat) : (z + padN z) % 512 = 0 := by unfold padN; omega
theorem fd_loc {s t : List By} {L o n : Nat} (h : t.take L = s.take L) (hon : o + n ≤ L) : fd t o n = fd s o n := by
 have e : ∀ r : List By, fd r o n = ((r.take L).drop o).take n := fun r => by
  unfold fd;rw [List.drop_take, List.take_take, Nat.min_eq_left (by omega)]
 rw [e, e, h]
theorem tkR_some {s d : List By} {o z L : Nat} (h : tkR s o z = some (d, L)) : d = fd s o z ∧ L = o + z + padN z ∧ L ≤ s.length := by
 unfold tkR at h;split at h
 ·rename_i hle;injection h with h;injection h with h1 h2;exact ⟨h1.symm, h2.symm, by omega⟩
 ·cases h
theorem tkR_loc {s t d : List By} {o z L M : Nat} (h : tkR s o z = some (d, L)) (hM : L ≤ M) (ht : M ≤ t.length) (e : t.take M = s.take M) : tkR t o z = some (d, L) := by
 obtain ⟨h1, h2, h3⟩ := tkR_some h;unfold tkR;rw [if_pos (by omega), h1, h2, fd_loc e (by omega)]
theorem tkR_len {s d : List By} {o z L : Nat} (h : tkR s o z = some (d, L)) : d.length = z := by
 obtain ⟨h1, h2, h3⟩ := tkR_some h;rw [h1]; unfold fd;rw [List.length_take, List.length_drop]; omega
theorem psR_on {s : List By} {h : Hr} {G : List Pr} {A : Ah} {L : Nat} {g : Bool} {G' : List Pr} {A' : Ah} (hp : psR s h G A = .on L g G' A') : 512 ≤ L ∧ L % 512 = 0 ∧ L ≤ s.length ∧ ∀ t : List By, L ≤ t.length → t.take L = s.take L → psR t h G A = .on L g G' A' := by
 unfold psR at hp;split at hp
 ·cases hp
 rename_i hz;cases hk : tkR s 512 h.size.toNat with
 | none => rw [hk] at hp; cases hp
 | some y =>
  obtain ⟨d, M⟩ := y;rw [hk] at hp;simp only at hp;obtain ⟨k1, k2, k3⟩ := tkR_some hk;have hM : M = L := by
   repeat' split at hp
   all_goals first
    | (cases hp; done)
    | (injection hp)
  subst hM;have hm : M % 512 = 0 := by have := pad_mod h.size.toNat; omega
  refine ⟨by omega, hm, k3, fun t ht e => ?_⟩;have hk2 := tkR_loc hk (Nat.le_refl _) ht e;unfold psR;rw [if_neg hz, hk2];exact hp
theorem psR_not {s : List By} {h : Hr} {G : List Pr} {A : Ah} {x : It} {L : Nat} : psR s h G A ≠ .got x L := by
 intro hp;unfold psR at hp
 repeat' split at hp
 all_goals cases hp
theorem bdR_got {s : List By} {h : Hr} {P : List Pr} {x y : It} {l : List Rg} {w : Int} {o L : Nat} (ho : o % 512 = 0) (hp : bdR s h P x l w o = .got y L) : o ≤ L ∧ L % 512 = 0 ∧ L ≤ s.length ∧ ∀ t : List By, L ≤ t.length → t.take L = s.take L → bdR t h P x l w o = .got y L := by
 unfold bdR at hp;cases hk : tkR s o x.held with
 | none => rw [hk] at hp; cases hp
 | some z =>
  obtain ⟨d, M⟩ := z;rw [hk] at hp;simp only at hp;obtain ⟨k1, k2, k3⟩ := tkR_some hk;have hM : M = L := by
   repeat' split at hp
   all_goals first
    | (cases hp; done)
    | (injection hp)
  subst hM;have hm : M % 512 = 0 := by have := pad_mod x.held; omega
  refine ⟨by omega, hm, k3, fun t ht e => ?_⟩;have hk2 := tkR_loc hk (Nat.le_refl _) ht e;unfold bdR;rw [hk2];exact hp
theorem bdR_not {s : List By} {h : Hr} {P : List Pr} {x : It} {l : List Rg} {w : Int} {o L : Nat} {g : Bool} {G' : List Pr} {A' : Ah} : bdR s h P x l w o ≠ .on L g G' A' := by
 intro hp;unfold bdR at hp
 repeat' split at hp
 all_goals cases hp
theorem omR_ok {s : List By} : ∀ (k : Nat) {o : Nat} {more : Bool} {l l' : List Rg} {o' : Nat}, s.length - o ≤ k → o % 512 = 0 → omR s o more l = .ok l' o' → o ≤ o' ∧ o' % 512 = 0 ∧ (more = true → o' ≤ s.length) ∧ ∀ (t : List By) (M : Nat), o' ≤ M → M ≤ t.length → t.take M = s.take M → omR t o more l = .ok l' o' := by
 intro k
 induction k with
 | zero =>
  intro o more l l' o' hk h0 hp;rw [omR] at hp;split at hp
  ·split at hp
   ·cases hp
   ·omega
  ·rename_i hm;injection hp with h1 h2;subst h1 h2;refine ⟨by omega, h0, fun h => absurd h hm, fun t M _ _ _ => ?_⟩;rw [omR, if_neg hm]
 | succ k ih =>
  intro o more l l' o' hk h0 hp;rw [omR] at hp;split at hp
  ·rename_i hm;split at hp
   ·cases hp
   ·rename_i hs;split at hp
    ·cases hp
    ·rename_i he;obtain ⟨q1, q2, q3, q4⟩ := ih (by omega) (by omega) hp;refine ⟨by omega, q2, fun _ => ?_, fun t M hM ht e => ?_⟩
     ·by_cases hx : (decide ((fd s o 512).getD 504 0 ≠ 0#8)) = true
      ·exact q3 hx
      ·rw [omR, if_neg hx] at hp;injection hp with h1 h2;omega
     ·have hM2 : o + 512 ≤ M := by omega
      have ef := fd_loc (o := o) (n := 512) e hM2;rw [omR, if_pos hm, dif_neg (by omega), ef, if_neg he];exact q4 t M hM ht e
  ·rename_i hm;injection hp with h1 h2;subst h1 h2;refine ⟨by omega, h0, fun h => absurd h hm, fun t M _ _ _ => ?_⟩;rw [omR, if_neg hm]
theorem enR_got {s : List By} {h : Hr} {G : List Pr} {A : Ah} {y : It} {L : Nat} (hs : 512 ≤ s.length) (hp : enR s h G A = .got y L) : 512 ≤ L ∧ L % 512 = 0 ∧ L ≤ s.length ∧ ∀ t : List By, L ≤ t.length → t.take L = s.take L → enR t h G A = .got y L := by
 unfold enR at hp;split at hp
 ·cases hp
 rename_i a1;split at hp
 ·cases hp
 rename_i a2;split at hp
 ·cases hp
 rename_i a3;split at hp
 ·cases hp
 rename_i a4;split at hp
 ·rename_i a5;split at hp
  ·cases hp
  rename_i a6;cases hom : omR s 512 (decide ((fd s 0 512).getD 482 0 ≠ 0#8)) (rgL (rdO (fd s 0 512) 4 386 []).1) with
  | bad p e => rw [hom] at hp; cases hp
  | ok l o =>
   rw [hom] at hp;simp only at hp;obtain ⟨q1, q2, q3, q4⟩ := omR_ok _ (Nat.le_refl _) (by omega) hom;obtain ⟨r1, r2, r3, r4⟩ := bdR_got q2 hp;refine ⟨by omega, r2, r3, fun t ht e => ?_⟩;have ef := fd_loc (o := 0) (n := 512) e (by omega);unfold enR;rw [if_neg a1, if_neg a2, if_neg a3, if_neg a4, if_pos a5, ef, if_neg a6, q4 t L (by omega) ht e];exact r4 t ht e
 ·rename_i a5;obtain ⟨r1, r2, r3, r4⟩ := bdR_got (by omega) hp;refine ⟨by omega, r2, r3, fun t ht e => ?_⟩;unfold enR;rw [if_neg a1, if_neg a2, if_neg a3, if_neg a4, if_neg a5];exact r4 t ht e
theorem enR_not {s : List By} {h : Hr} {G : List Pr} {A : Ah} {L : Nat} {g : Bool} {G' : List Pr} {A' : Ah} : enR s h G A ≠ .on L g G' A' := by
 intro hp;unfold enR at hp
 repeat' split at hp
 all_goals first
  | (cases hp; done)
  | exact bdR_not hp
theorem bdR_fin {s : List By} {h : Hr} {P : List Pr} {x : It} {l : List Rg} {w : Int} {o : Nat} : bdR s h P x l w o ≠ .fin := by
 intro hp;unfold bdR at hp
 repeat' split at hp
 all_goals cases hp
theorem enR_fin {s : List By} {h : Hr} {G : List Pr} {A : Ah} : enR s h G A ≠ .fin := by
 intro hp;unfold enR at hp
 repeat' split at hp
 all_goals first
  | (cases hp; done)
  | exact bdR_fin hp
theorem cor_on {s : List By} {G : List Pr} {A : Ah} {L : Nat} {g : Bool} {G' : List Pr} {A' : Ah} (hp : cor s G A = .on L g G' A') : 512 ≤ L ∧ L % 512 = 0 ∧ L ≤ s.length ∧ ∀ t : List By, L ≤ t.length → t.take L = s.take L → cor t G A = .on L g G' A' := by
 unfold cor at hp;split at hp
 ·cases hp
 rename_i a1;split at hp
 ·cases hp
 rename_i a2;split at hp
 ·cases hp
 rename_i a3;split at hp
 ·cases hp
 rename_i a4;split at hp
 ·rename_i a5;obtain ⟨r1, r2, r3, r4⟩ := psR_on hp;refine ⟨r1, r2, r3, fun t ht e => ?_⟩;have ef := fd_loc (o := 0) (n := 512) e (by omega);unfold cor;rw [if_neg (by intro h; rw [h] at ht; simp at ht; omega), if_neg (by omega), ef, if_neg a3, if_neg a4, if_pos a5];exact r4 t ht e
 ·exact absurd hp enR_not
theorem cor_got {s : List By} {G : List Pr} {A : Ah} {y : It} {L : Nat} (hp : cor s G A = .got y L) : 512 ≤ L ∧ L % 512 = 0 ∧ L ≤ s.length ∧ ∀ t : List By, L ≤ t.length → t.take L = s.take L → cor t G A = .got y L := by
 unfold cor at hp;split at hp
 ·cases hp
 rename_i a1;split at hp
 ·cases hp
 rename_i a2;split at hp
 ·cases hp
 rename_i a3;split at hp
 ·cases hp
 rename_i a4;split at hp
 ·exact absurd hp psR_not
 ·rename_i a5;obtain ⟨r1, r2, r3, r4⟩ := enR_got (by omega) hp;refine ⟨r1, r2, r3, fun t ht e => ?_⟩;have ef := fd_loc (o := 0) (n := 512) e (by omega);unfold cor;rw [if_neg (by intro h; rw [h] at ht; simp at ht; omega), if_neg (by omega), ef, if_neg a3, if_neg a4, if_neg a5];exact r4 t ht e
theorem cor_fin {s : List By} {G : List Pr} {A : Ah} (hp : cor s G A = .fin) : s = [] ∨ (512 ≤ s.length ∧ fd s 0 512 = zrec) := by
 unfold cor at hp;split at hp
 ·rename_i a1; exact .inl a1
 split at hp
 ·cases hp
 rename_i a2;split at hp
 ·rename_i a3; exact .inr ⟨by omega, a3⟩
 split at hp
 ·cases hp
 split at hp
 ·unfold psR at hp
  repeat' split at hp
  all_goals cases hp
 ·exact absurd hp enR_fin
end Go.Proofs.YtlenihpbhlfcoaaGreatDoor
