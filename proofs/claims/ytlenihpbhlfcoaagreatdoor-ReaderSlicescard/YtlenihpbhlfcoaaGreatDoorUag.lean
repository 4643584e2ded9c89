import Derived.Test.YtlenihpbhlfcoaaGreatDoorUaf
import Derived.Lib.ItoaNum
set_option maxHeartbeats 8000000
set_option maxRecDepth 100000
set_option linter.unusedSimpArgs false
set_option linter.unusedVariables false
namespace Go.Proofs.YtlenihpbhlfcoaaGreatDoor
open Go.RowKit
def RcH (g : Nat) (L : List By) (w : World) : Prop := w.heap[g]? = some (.cells (rc L) 58)
theorem RcH.set {g : Nat} {L : List By} {w : World} (h : RcH g L w) (j : Nat) (x : By) (z : Int) (hz : z = x.toNat) : RcH g (L.set j x) (w.setCell ⟨g, j, none⟩ (.int .u8 z)) := by
 subst hz;unfold RcH rc at h ⊢;simp only [World.setCell, Array.getElem?_modify, h];simp [List.map_set]
theorem RcH.cell {g : Nat} {L : List By} {w : World} (h : RcH g L w) (j : Nat) (hj : j < L.length) : w.cell? ⟨g, j, none⟩ = some (.int .u8 L[j].toNat) ∧ w.frozen? ⟨g, j, none⟩ = false := by
 have := rc_at L j hj;unfold RcH at h;constructor
 ·simp only [World.cell?, h]; simpa using this
 ·simp [World.frozen?, h]
theorem RcH.lt {g : Nat} {L : List By} {w : World} (h : RcH g L w) : g < w.heap.size := (Array.getElem?_eq_some_iff.1 h).1
theorem RcH.kept {g : Nat} {L : List By} {w w' : World} {X : Nat → Prop} (h : RcH g L w) (f : Fr X w w') (hx : ¬ X g) : RcH g L w' := (f.block g h.lt hx).trans h
def fd (b : List By) (o n : Nat) : List By := (b.drop o).take n
def pt (b : List By) (o : Nat) (l : List By) : List By := b.take o ++ (l ++ b.drop (o + l.length))
theorem pt_length (b l : List By) (o : Nat) (h : o + l.length ≤ b.length) : (pt b o l).length = b.length := by
 unfold pt;rw [List.length_append, List.length_append, List.length_take, List.length_drop]; omega
theorem pt_at (A X B Y : List By) (h : Y.length = X.length) : pt (A ++ (X ++ B)) A.length Y = A ++ (Y ++ B) := by
 unfold pt;have e : (A ++ (X ++ B)).drop (A.length + X.length) = B := by
  rw [← List.append_assoc];exact List.drop_left' (by rw [List.length_append])
 rw [List.take_left' rfl, h, e]
def Ws : List Nat := [100, 8, 8, 8, 12, 12, 8, 1, 100, 8, 32, 32, 8, 8, 155, 12]
def Fs (L : List (List By)) : Prop := L.map List.length = Ws
theorem flat_cut (L : List (List By)) (k : Nat) (hk : k < L.length) : L.flatten = (L.take k).flatten ++ (L[k] ++ (L.drop (k + 1)).flatten) := by
 have e : L = L.take k ++ (L[k] :: L.drop (k + 1)) := by
  rw [← List.drop_eq_getElem_cons hk, List.take_append_drop]
 have := congrArg List.flatten e;rw [List.flatten_append, List.flatten_cons] at this;exact this
theorem Fs.len {L : List (List By)} (h : Fs L) : L.length = 16 := by
 have := congrArg List.length h;rw [List.length_map] at this;exact this
theorem Fs.width {L : List (List By)} (h : Fs L) (k : Nat) (hk : k < L.length) (n : Nat) (hn : Ws[k]? = some n) : L[k].length = n := by
 have e := congrArg (·[k]?) h;simp only [List.getElem?_map] at e;rw [hn, List.getElem?_eq_getElem hk] at e;injection e
theorem Fs.off {L : List (List By)} (h : Fs L) (k : Nat) : (L.take k).flatten.length = (Ws.take k).sum := by
 rw [List.length_flatten, List.map_take, h]
theorem Fs.length {L : List (List By)} (h : Fs L) : L.flatten.length = 512 := by
 rw [List.length_flatten, h]; decide
theorem Fs.set {L : List (List By)} (h : Fs L) (k : Nat) (Y : List By) (hn : Ws[k]? = some Y.length) : Fs (L.set k Y) := by
 unfold Fs;rw [List.map_set, h];obtain ⟨hk, e⟩ := List.getElem?_eq_some_iff.1 hn;rw [← e, List.set_getElem_self]
theorem Fs.pt {L : List (List By)} (h : Fs L) (k o : Nat) (Y : List By) (ho : (Ws.take k).sum = o) (hn : Ws[k]? = some Y.length) : pt L.flatten o Y = (L.set k Y).flatten := by
 have hk : k < L.length := by rw [h.len]; exact (List.getElem?_eq_some_iff.1 hn).1
 have hw := h.width k hk _ hn;have hk2 : k < (L.set k Y).length := by rw [List.length_set]; exact hk
 rw [flat_cut L k hk, flat_cut (L.set k Y) k hk2, ← ho, ← h.off k, pt_at _ _ _ _ hw.symm, List.getElem_set_self, List.take_set, List.set_eq_of_length_le (by rw [List.length_take]; omega), List.drop_set_of_lt (by omega)]
def nmN (b : List By) : Int := if 128 ≤ (b.headD 0).toNat then binN b else (octN b : Nat)
def nmE (b : List By) : Nat := if 128 ≤ (b.headD 0).toNat then binE b else octE b
theorem numA_eq (b : List By) : numA b = .tuple #[.int .i64 (nmN b), .int .i64 (nmE b : Nat)] := by
 unfold numA nmN nmE;split <;> rfl
structure Hr where
 form : Int
 name : ByteArray
 pfx : ByteArray
 mode : Int
 uid : Int
 gid : Int
 size : Int
 time : Int
 typ : By
 link : ByteArray
 user : ByteArray
 group : ByteArray
 major : Int
 minor : Int
def Hr.C (h : Hr) : Array Value := #[.int .i64 h.form, .string h.name, .string h.pfx, .int .i64 h.mode, .int .i64 h.uid, .int .i64 h.gid, .int .i64 h.size, .int .i64 h.time, .int .u8 h.typ.toNat, .string h.link, .string h.user, .string h.group, .int .i64 h.major, .int .i64 h.minor]
def eS : ByteArray := ⟨#[]⟩
def hZ : Hr := ⟨0, eS, eS, 0, 0, 0, 0, 0, 0#8, eS, eS, eS, 0, 0⟩
def i64 (n : Int) : Prop := -9223372036854775808 ≤ n ∧ n ≤ 9223372036854775807
structure Hr.Ok (h : Hr) : Prop where
 form : i64 h.form
 mode : i64 h.mode
 uid : i64 h.uid
 gid : i64 h.gid
 size : i64 h.size
 time : i64 h.time
 major : i64 h.major
 minor : i64 h.minor
 name : h.name.size ≤ 140737488351232
 pfx : h.pfx.size ≤ 140737488351232
 link : h.link.size ≤ 140737488351232
 user : h.user.size ≤ 140737488351232
 group : h.group.size ≤ 140737488351232
def mg (f : Nat) : List By := if f = 2 then [117#8, 115#8, 116#8, 97#8, 114#8, 0#8, 48#8, 48#8] else if f = 3 then [117#8, 115#8, 116#8, 97#8, 114#8, 32#8, 32#8, 0#8] else [0#8, 0#8, 0#8, 0#8, 0#8, 0#8, 0#8, 0#8]
def fE (f : Nat) : Nat := if f = 2 then 500 else if f = 3 then 345 else 257
def mgOf (b : List By) : Nat := if fd b 257 8 = mg 1 then 1 else if fd b 257 8 = mg 2 then 2 else if fd b 257 8 = mg 3 then 3 else 0
def tyOf (b : List By) : By := if b.getD 156 0 = 0#8 then 48#8 else b.getD 156 0
def dT (b : List By) (f i k o n : Nat) : ByteArray := if k < i ∧ o < fE f then str (txt (fd b o n)) else eS
def dN (b : List By) (f j k o n : Nat) : Int := if k < j ∧ o < fE f then nmN (fd b o n) else 0
def dH (b : List By) (f i j : Nat) : Hr := ⟨f, dT b f i 0 0 100, dT b f i 4 345 155, dN b f j 0 100 8, dN b f j 1 108 8, dN b f j 2 116 8, dN b f j 3 124 12, dN b f j 4 136 12, tyOf b, dT b f i 1 157 100, dT b f i 2 265 32, dT b f i 3 297 32, dN b f j 5 329 8, dN b f j 6 337 8⟩
def nF : List (Nat × Nat × Bool) := [(100, 8, false), (108, 8, false), (116, 8, false), (124, 12, false), (136, 12, true), (329, 8, false), (337, 8, false)]
def nbE (b : List By) (o n : Nat) (bl : Bool) : Nat := if nmE (fd b o n) = 0 then (if 0 ≤ nmN (fd b o n) ∨ bl = true then 0 else 121) else nmE (fd b o n)
def scN (b : List By) (f : Nat) : List (Nat × Nat × Bool) → Nat × Nat
 | [] => (0, 0)
 | (o, n, bl) :: l => if o < fE f ∧ nbE b o n bl ≠ 0 then (o, nbE b o n bl) else scN b f l
def decE (b : List By) : Nat := if chk b = true then (if mgOf b = 0 then 130 else (scN b (mgOf b) nF).2) else 131
def decP (b : List By) : Nat := if chk b = true then (if mgOf b = 0 then 257 else (scN b (mgOf b) nF).1) else 148
def decH (b : List By) : Hr := if decE b = 0 then dH b (mgOf b) 5 7 else hZ
def zs (n : Nat) : List By := List.replicate n 0#8
def nL (f : Nat) (x : Int) (n : Nat) : List By := if f = 3 then pnL x n else poL x n
def nE (f : Nat) (x : Int) (n : Nat) : Nat := if f = 3 then pnE x n else poE x n
def eT (f i k o n : Nat) (s : ByteArray) : List By := if k < i ∧ o < fE f then pxL s n else zs n
def eN (f j k o n : Nat) (x : Int) : List By := if k < j ∧ o < fE f then nL f x n else zs n
def eL (h : Hr) (f i j : Nat) (t m : List By) : List (List By) := [eT f i 0 0 100 h.name, eN f j 0 100 8 h.mode, eN f j 1 108 8 h.uid, eN f j 2 116 8 h.gid, eN f j 3 124 12 h.size, eN f j 4 136 12 h.time, zs 8, t, eT f i 1 157 100 h.link, m, eT f i 2 265 32 h.user, eT f i 3 297 32 h.group, eN f j 5 329 8 h.major, eN f j 6 337 8 h.minor, eT f i 4 345 155 h.pfx, zs 12]
def Hr.ts (h : Hr) : List (Nat × Nat × ByteArray) := [(0, 100, h.name), (157, 100, h.link), (265, 32, h.user), (297, 32, h.group), (345, 155, h.pfx)]
def Hr.ns (h : Hr) : List (Nat × Nat × Int × Bool) := [(100, 8, h.mode, false), (108, 8, h.uid, false), (116, 8, h.gid, false), (124, 12, h.size, false), (136, 12, h.time, true), (329, 8, h.major, false), (337, 8, h.minor, false)]
def tCan (f : Nat) (x : Nat × Nat × ByteArray) : Bool := noZ x.2.2 && (decide (x.2.2 = eS) || decide (x.1 < fE f))
def nCan (f : Nat) (x : Nat × Nat × Int × Bool) : Bool := decide (x.2.2.1 = 0) || decide (x.1 < fE f)
def tFit (f : Nat) (x : Nat × Nat × ByteArray) : Bool := decide (fE f ≤ x.1) || decide (pxE x.2.2 x.2.1 = 0)
def nFit (f : Nat) (x : Nat × Nat × Int × Bool) : Bool := decide (fE f ≤ x.1) || (decide (nE f x.2.2.1 x.2.1 = 0) && (decide (0 ≤ x.2.2.1) || x.2.2.2))
def Hr.can (h : Hr) (f : Nat) : Bool := h.ts.all (tCan f) && h.ns.all (nCan f)
def Hr.fit (h : Hr) (f : Nat) : Bool := h.ts.all (tFit f) && h.ns.all (nFit f)
def Hr.fm (h : Hr) : Nat := if h.form = 1 then 1 else if h.form = 2 then 2 else if h.form = 3 then 3 else 0
def encE (h : Hr) : Nat := if h.fm ≠ 0 ∧ h.can h.fm = true then (if h.typ = 0#8 then 132 else if h.fit h.fm = true then 0 else 133) else 1
def encL (h : Hr) : List (List By) := eL h h.fm 5 7 [h.typ] (mg h.fm)
def encR (h : Hr) : List By := if encE h = 0 then psm (encL h).flatten else zrec
def sl1 : ByteArray := ⟨#[47]⟩
def nmF (h : Hr) : ByteArray := if h.pfx = eS then h.name else h.pfx ++ sl1 ++ h.name
theorem str_beq (a b : ByteArray) : (a.toList == b.toList) = decide (a = b) := by
 rw [ByteArray.toList_eq, ByteArray.toList_eq];by_cases h : a = b
 ·subst h; simp
 ·rw [decide_eq_false h, beq_eq_false_iff_ne];intro e;apply h;apply ByteArray.ext;exact Array.toList_inj.1 e
theorem eS_beq (s : ByteArray) : s.toList.isEmpty = decide (s = eS) := by
 have := str_beq s eS;rw [← this, ByteArray.toList_eq, ByteArray.toList_eq];show _ = (s.data.toList == []);cases s.data.toList <;> rfl
theorem name_any (h : Hr) (w : World) (hs : h.pfx.size + 1 + h.name.size ≤ 140737488351232) : Calls Tryz.prog 88 #[.agg h.C] w fun e w' => e = .returned (.string (nmF h)) ∧ Nw w w' := by
 refine asP fun P hP => ?_
 have HF : Hid (∀ W, Nw w W → P (.returned (.string (nmF h))) W) := fun W hW => by rw [hP]; exact ⟨rfl, hW⟩
 clear hP;unfold nmF at HF;have hb := eS_beq h.pfx;unfold Hr.C;by_cases h1 : h.pfx = eS
 ·rw [if_pos h1] at HF;rw [decide_eq_true h1] at hb;clear h1;generalize h.pfx = p at *;generalize h.name = m at *;go_enter Tryz.func88, Tryz.ntmps88
  go_wp2_with fail
  exact HF.out _ ((Fr.refl _ _).alloc _)
 ·rw [if_neg h1] at HF;rw [decide_eq_false h1] at hb;clear h1;generalize h.pfx = p at *;generalize h.name = m at *;go_enter Tryz.func88, Tryz.ntmps88
  go_wp2_with fail
  exact HF.out _ ((Fr.refl _ _).alloc _)
abbrev Bs := List By
abbrev Pr := Bs × Bs
def la : Nat → Nat → Bs → Nat × Nat × Nat
 | _, _, [] => (0, 0, 4)
 | i, n, c :: r => if c = 32#8 ∧ 0 < i then (n, i, 0) else if c.toNat < 48 ∨ 57 < c.toNat ∨ (i = 0 ∧ c = 48#8) ∨ i = 7 then (0, 0, 140) else la (i + 1) (n * 10 + (c.toNat - 48)) r
inductive Rx where
 | bad (n e : Nat)
 | ok (x : Pr) (n : Nat)
def cutE : Bs → Option Pr
 | [] => none
 | c :: r => if c = 61#8 then some ([], r) else match cutE r with
  | none => none
  | some x => some (c :: x.1, x.2)
def canP (x : Pr) : Bool := (!decide (x.1 = [])) && !(decide (61#8 ∈ x.1) || decide (0#8 ∈ x.1)) && !decide (0#8 ∈ x.2)
def rc1 (b : Bs) : Rx :=
 if (la 0 0 b).2.2 = 4 then .bad b.length 4
 else if (la 0 0 b).2.2 ≠ 0 ∨ (la 0 0 b).1 < (la 0 0 b).2.1 + 4 then .bad 0 140
 else if b.length < (la 0 0 b).1 then .bad b.length 4
 else if b[(la 0 0 b).1 - 1]? ≠ some 10#8 then .bad ((la 0 0 b).1 - 1) 142
 else match cutE ((b.take ((la 0 0 b).1 - 1)).drop ((la 0 0 b).2.1 + 1)) with
  | none => .bad ((la 0 0 b).2.1 + 1) 141
  | some x => if canP x = true then .ok x (la 0 0 b).1 else .bad ((la 0 0 b).2.1 + 1) 141
theorem la_why (i n : Nat) (b : Bs) : (la i n b).2.2 = 0 ∨ (la i n b).2.2 = 4 ∨ (la i n b).2.2 = 140 := by
 induction b generalizing i n with
 | nil => simp [la]
 | cons c r ih =>
  rw [la];split
  ·simp
  ·split
   ·simp
   ·exact ih _ _
theorem la_ok (i n : Nat) (b : Bs) (hi : i ≤ 7) (hn : n < 10 ^ i) (h : (la i n b).2.2 = 0) : i ≤ (la i n b).2.1 ∧ (la i n b).2.1 ≤ 7 ∧ 0 < (la i n b).2.1 ∧ (la i n b).1 < 10 ^ (la i n b).2.1 ∧ (la i n b).2.1 - i < b.length ∧ b[(la i n b).2.1 - i]? = some 32#8 := by
 induction b generalizing i n with
 | nil => simp [la] at h
 | cons c r ih =>
  rw [la] at h ⊢;split at h
  ·rename_i h1;rw [if_pos h1];simp [hi, h1, hn]
  ·rename_i h1;rw [if_neg h1];split at h
   ·simp at h
   ·rename_i h2;rw [if_neg h2];have h7 : i < 7 := by omega
    have hd : c.toNat - 48 < 10 := by omega
    have hp : 10 ^ (i + 1) = 10 * 10 ^ i := by rw [Nat.pow_succ, Nat.mul_comm]
    obtain ⟨k1, k2, k3, k4, k5, k6⟩ := ih (i + 1) (n * 10 + (c.toNat - 48)) (by omega) (by omega) h;refine ⟨by omega, k2, k3, k4, by simp only [List.length_cons]; omega, ?_⟩;have e : (la (i + 1) (n * 10 + (c.toNat - 48)) r).2.1 - i = ((la (i + 1) (n * 10 + (c.toNat - 48)) r).2.1 - (i + 1)) + 1 := by omega
    rw [e, List.getElem?_cons_succ];exact k6
theorem la_good (b : Bs) (h : (la 0 0 b).2.2 = 0) : (la 0 0 b).2.1 ≤ 7 ∧ 0 < (la 0 0 b).2.1 ∧ (la 0 0 b).1 < 10000000 ∧ (la 0 0 b).2.1 < b.length ∧ b[(la 0 0 b).2.1]? = some 32#8 := by
 obtain ⟨k1, k2, k3, k4, k5, k6⟩ := la_ok 0 0 b (by decide) (by decide) h;refine ⟨k2, k3, Nat.lt_of_lt_of_le k4 ?_, by omega, k6⟩;exact Nat.pow_le_pow_right (by decide) k2
theorem rc1_ok {b : Bs} {x : Pr} {n : Nat} (h : rc1 b = .ok x n) : 5 ≤ n ∧ n ≤ b.length ∧ n < 10000000 ∧ x.1.length + x.2.length + 3 < n ∧ canP x = true := by
 unfold rc1 at h;split at h
 ·cases h
 split at h
 ·cases h
 split at h
 ·cases h
 split at h
 ·cases h
 rename_i h1 h2 h3 h4;have hg := la_good b (by omega);generalize la 0 0 b = L at *;have hcut : ∀ (l : Bs) (y : Pr), cutE l = some y → y.1.length + y.2.length + 1 = l.length := by
  intro l
  induction l with
  | nil => intro y hy; simp [cutE] at hy
  | cons c r ih =>
   intro y hy;rw [cutE] at hy;split at hy
   ·injection hy with hy; subst hy; simp
   ·split at hy
    ·cases hy
    ·rename_i z hz;injection hy with hy; subst hy;have := ih z hz;simp; omega
 split at h
 ·cases h
 ·rename_i y hy;split at h
  ·rename_i hc;injection h with e1 e2;subst e1 e2;have := hcut _ _ hy;rw [List.length_drop, List.length_take] at this;exact ⟨by omega, by omega, by omega, by omega, hc⟩
  ·cases h
def prs (b : Bs) (p : Nat) (acc : List Pr) : List Pr × Nat × Nat :=
 if h : p < b.length then
  match hr : rc1 (b.drop p) with
  | .bad n e => ([], p + n, e)
  | .ok x n => prs b (p + n) (acc ++ [x])
 else (acc, 0, 0)
termination_by b.length - p
decreasing_by
 have := rc1_ok hr;omega
theorem prs_end (b : Bs) (p : Nat) (acc : List Pr) (h : ¬ p < b.length) : prs b p acc = (acc, 0, 0) := by
 rw [prs, dif_neg h]
theorem prs_bad (b : Bs) (p : Nat) (acc : List Pr) (h : p < b.length) (n e : Nat) (hr : rc1 (b.drop p) = .bad n e) : prs b p acc = ([], p + n, e) := by
 rw [prs, dif_pos h];split
 ·rename_i n' e' hr';rw [hr] at hr';injection hr' with h1 h2;subst h1 h2;rfl
 ·rename_i x' n' hr';rw [hr] at hr';cases hr'
theorem prs_ok (b : Bs) (p : Nat) (acc : List Pr) (h : p < b.length) (x : Pr) (n : Nat) (hr : rc1 (b.drop p) = .ok x n) : prs b p acc = prs b (p + n) (acc ++ [x]) := by
 conv => lhs; rw [prs]
 rw [dif_pos h];split
 ·rename_i n' e' hr';rw [hr] at hr';cases hr'
 ·rename_i x' n' hr';rw [hr] at hr';injection hr' with h1 h2;subst h1 h2;rfl
theorem rc1_bad {b : Bs} {n e : Nat} (h : rc1 b = .bad n e) : n ≤ b.length ∧ (e = 4 ∨ e = 140 ∨ e = 141 ∨ e = 142) := by
 unfold rc1 at h;split at h
 ·injection h with e1 e2; subst e1 e2; simp
 split at h
 ·injection h with e1 e2; subst e1 e2; simp
 split at h
 ·injection h with e1 e2; subst e1 e2; simp
 split at h
 ·injection h with e1 e2; subst e1 e2; exact ⟨by omega, by simp⟩
 rename_i h1 h2 h3 h4;have hg := la_good b (by omega);split at h
 ·injection h with e1 e2; subst e1 e2; exact ⟨by omega, by simp⟩
 ·split at h
  ·cases h
  ·injection h with e1 e2; subst e1 e2; exact ⟨by omega, by simp⟩
theorem prs_errno (b : Bs) (p : Nat) (acc : List Pr) : (prs b p acc).2.2 ≤ 142 ∧ (prs b p acc).2.1 ≤ b.length ∧ ((prs b p acc).2.2 ≠ 0 → (prs b p acc).1 = []) ∧ ((prs b p acc).2.2 = 0 → (prs b p acc).2.1 = 0) := by
 induction h : b.length - p using Nat.strongRecOn generalizing p acc with
 | _ k ih =>
  by_cases hp : p < b.length
  ·cases hr : rc1 (b.drop p) with
   | bad n e =>
    rw [prs_bad b p acc hp n e hr];have := rc1_bad hr;rw [List.length_drop] at this;refine ⟨by show e ≤ 142; omega, by show p + n ≤ _; omega, fun _ => rfl, fun h0 => ?_⟩;exfalso;have h0 : e = 0 := h0;omega
   | ok x n =>
    rw [prs_ok b p acc hp x n hr];have := rc1_ok hr;rw [List.length_drop] at this;exact ih (b.length - (p + n)) (by omega) (p + n) _ rfl
  ·rw [prs_end b p acc hp];simp
def decK (n : Nat) : Bs := if h : n < 10 then [BitVec.ofNat 8 (48 + n)] else decK (n / 10) ++ [BitVec.ofNat 8 (48 + n % 10)]
termination_by n
decreasing_by omega
theorem dec_small {n : Nat} (h : n < 10) : decK n = [BitVec.ofNat 8 (48 + n)] := by rw [decK, dif_pos h]
theorem dec_big {n : Nat} (h : ¬ n < 10) : decK n = decK (n / 10) ++ [BitVec.ofNat 8 (48 + n % 10)] := by rw [decK, dif_neg h]
theorem u8_ofNat (n : Nat) (h : n < 256) : u8 (BitVec.ofNat 8 n) = UInt8.ofNat n := by
 unfold u8;rw [BitVec.toNat_ofNat, Nat.mod_eq_of_lt h]
theorem dec_lib (n : Nat) : Lib.decDigits n = (decK n).map u8 := by
 induction n using Nat.strongRecOn with
 | _ n ih =>
  by_cases h : n < 10
  ·rw [Lib.decDigits, dif_pos h, dec_small h, List.map_cons, List.map_nil, u8_ofNat _ (by omega)]
  ·rw [Lib.decDigits, dif_neg h, dec_big h, List.map_append, ih (n / 10) (by omega), List.map_cons, List.map_nil, u8_ofNat _ (by omega)]
theorem dec_len (n : Nat) : (decK n).length = Lib.nDigits n := by
 induction n using Nat.strongRecOn with
 | _ n ih =>
  by_cases h : n < 10
  ·rw [dec_small h, Lib.nDigits_small h]; rfl
  ·rw [dec_big h, Lib.nDigits_big h, List.length_append, ih (n / 10) (by omega)]; rfl
def isDK (c : By) : Prop := 48 ≤ c.toNat ∧ c.toNat ≤ 57
def val (n : Nat) (l : Bs) : Nat := l.foldl (fun a c => a * 10 + (c.toNat - 48)) n
theorem val_app (n : Nat) (l m : Bs) : val n (l ++ m) = val (val n l) m := by simp [val]
theorem val_lt (l : Bs) (h : ∀ c ∈ l, isDK c) (n k : Nat) (hn : n < 10 ^ k) : val n l < 10 ^ (k + l.length) := by
 induction l generalizing n k with
 | nil => simpa [val] using hn
 | cons c r ih =>
  have hc := h c (by simp);unfold isDK at hc;have hp : 10 ^ (k + 1) = 10 * 10 ^ k := by rw [Nat.pow_succ, Nat.mul_comm]
  have := ih (fun x hx => h x (by simp [hx])) (n * 10 + (c.toNat - 48)) (k + 1) (by omega);simp only [val, List.foldl_cons] at this ⊢;rw [List.length_cons, show k + (r.length + 1) = k + 1 + r.length by omega];exact this
theorem dec_uniq (l : Bs) (hd : ∀ c ∈ l, isDK c) (hz : ∀ c t, l = c :: t → c ≠ 48#8) (hl : l ≠ []) : l = decK (val 0 l) := by
 obtain ⟨n, hn⟩ : ∃ n, n = l.length := ⟨_, rfl⟩
 induction n generalizing l with
 | zero => exact absurd (List.length_eq_zero_iff.1 hn.symm) hl
 | succ n ih =>
  obtain ⟨m, c, rfl⟩ : ∃ m c, l = m ++ [c] := ⟨l.dropLast, l.getLast hl, (List.dropLast_concat_getLast hl).symm⟩;have hc := hd c (by simp);unfold isDK at hc;have hcn : BitVec.ofNat 8 (48 + (c.toNat - 48)) = c := by
   apply BitVec.eq_of_toNat_eq
   rw [BitVec.toNat_ofNat, Nat.mod_eq_of_lt (by omega)];omega
  rw [val_app];have hv : val (val 0 m) [c] = val 0 m * 10 + (c.toNat - 48) := rfl;rw [hv];by_cases hm : m = []
  ·subst hm;have : val 0 ([] : Bs) = 0 := rfl;rw [this, dec_small (by omega), Nat.zero_mul, Nat.zero_add, hcn];rfl
  ·have e := ih m (fun x hx => hd x (by simp [hx])) (fun x t ht => hz x (t ++ [c]) (by rw [ht]; rfl)) hm (by simp at hn; exact hn);have hpos : 0 < val 0 m := by
    rcases Nat.eq_zero_or_pos (val 0 m) with h0 | h0
    ·rw [h0, dec_small (by decide)] at e;exact absurd rfl (hz _ [c] (by rw [e]; rfl))
    ·exact h0
   rw [dec_big (by omega)];have e1 : (val 0 m * 10 + (c.toNat - 48)) / 10 = val 0 m := by omega
   have e2 : (val 0 m * 10 + (c.toNat - 48)) % 10 = c.toNat - 48 := by omega
   rw [e1, e2, ← e, hcn]
def lngA : Nat → Nat → Nat → Nat
 | 0, _, _ => 0
 | k + 1, n, a => if n + 1 < a * 10 then n + 1 else lngA k (n + 1) (a * 10)
def lng (x : Pr) : Nat := lngA 7 (x.1.length + x.2.length + 3) 1
theorem lngA_spec (k n d : Nat) (hd : 1 ≤ d) (h : ∀ j, 1 ≤ j → j < d → ¬ n + j < 10 ^ j) (hk : d + k = 8) (hn : n + d - 1 = n + (d - 1)) :
  (lngA k (n + (d - 1)) (10 ^ (d - 1)) = 0 ∧ ∀ j, 1 ≤ j → j ≤ 7 → ¬ n + j < 10 ^ j) ∨ ∃ e, 1 ≤ e ∧ e ≤ 7 ∧ lngA k (n + (d - 1)) (10 ^ (d - 1)) = n + e ∧ n + e < 10 ^ e ∧ ∀ j, 1 ≤ j → j < e → ¬ n + j < 10 ^ j := by
 induction k generalizing d with
 | zero => exact .inl ⟨rfl, fun j h1 h2 => h j h1 (by omega)⟩
 | succ k ih =>
  have e1 : n + (d - 1) + 1 = n + d := by omega
  have e2 : 10 ^ (d - 1) * 10 = 10 ^ d := by rw [← Nat.pow_succ]; congr 1; omega
  rw [lngA, e1, e2];by_cases hlt : n + d < 10 ^ d
  ·rw [if_pos hlt];exact .inr ⟨d, hd, by omega, rfl, hlt, h⟩
  ·rw [if_neg hlt];have := ih (d + 1) (by omega) (fun j h1 h2 => by
    by_cases hj : j = d
    ·subst hj; exact hlt
    ·exact h j h1 (by omega)) (by omega) (by omega)
   simpa using this
theorem lng_spec (x : Pr) : (lng x = 0 ∧ ∀ j, 1 ≤ j → j ≤ 7 → ¬ x.1.length + x.2.length + 3 + j < 10 ^ j) ∨ ∃ e, 1 ≤ e ∧ e ≤ 7 ∧ lng x = x.1.length + x.2.length + 3 + e ∧ lng x < 10 ^ e ∧ Lib.nDigits (lng x) = e ∧ ∀ j, 1 ≤ j → j < e → ¬ x.1.length + x.2.length + 3 + j < 10 ^ j := by
 have := lngA_spec 7 (x.1.length + x.2.length + 3) 1 (by decide) (fun j h1 h2 => by omega) (by decide) (by omega);simp only [Nat.sub_self, Nat.add_zero, Nat.pow_zero] at this;rcases this with h | ⟨e, h1, h2, h3, h4, h5⟩
 ·exact .inl h
 ·refine .inr ⟨e, h1, h2, h3, by unfold lng; omega, ?_, h5⟩;unfold lng;rw [h3];obtain ⟨f, rfl⟩ : ∃ f, e = f + 1 := ⟨e - 1, by omega⟩;apply Lib.nDigits_unique f _ _ h4;rcases Nat.eq_zero_or_pos f with hf | hf
  ·subst hf; simp
  ·have := h5 f (by omega) (by omega);omega
def rec1 (x : Pr) : Bs := decK (lng x) ++ 32#8 :: (x.1 ++ 61#8 :: (x.2 ++ [10#8]))
theorem rec1_len (x : Pr) (h : lng x ≠ 0) : (rec1 x).length = lng x := by
 rcases lng_spec x with ⟨h0, _⟩ | ⟨e, h1, h2, h3, h4, h5, h6⟩
 ·exact absurd h0 h
 ·simp only [rec1, List.length_append, List.length_cons, List.length_nil, dec_len, h5];omega
theorem cutE_app (k v : Bs) (h : 61#8 ∉ k) : cutE (k ++ 61#8 :: v) = some (k, v) := by
 induction k with
 | nil => simp [cutE]
 | cons c r ih =>
  rw [List.mem_cons, not_or] at h;rw [List.cons_append, cutE, if_neg (fun e => h.1 e.symm), ih h.2]
def prt : List Pr → Bs
 | [] => []
 | x :: r => rec1 x ++ prt r
theorem la_inv (i n : Nat) (b : Bs) (h : (la i n b).2.2 = 0) : ∃ ds r, b = ds ++ 32#8 :: r ∧ (∀ c ∈ ds, isDK c) ∧ (la i n b).2.1 = i + ds.length ∧ (la i n b).1 = val n ds ∧ (i = 0 → ds ≠ [] ∧ ∀ c t, ds = c :: t → c ≠ 48#8) := by
 induction b generalizing i n with
 | nil => simp [la] at h
 | cons c r ih =>
  rw [la] at h ⊢;split at h
  ·rename_i h1;rw [if_pos h1];exact ⟨[], r, by rw [h1.1]; rfl, by simp, by simp, rfl, fun h0 => by omega⟩
  ·rename_i h1;rw [if_neg h1];split at h
   ·simp at h
   ·rename_i h2;rw [if_neg h2];obtain ⟨ds, r', k1, k2, k3, k4, k5⟩ := ih (i + 1) (n * 10 + (c.toNat - 48)) h;refine ⟨c :: ds, r', by rw [k1]; rfl, ?_, by rw [k3, List.length_cons]; omega, by rw [k4]; rfl, fun h0 => ⟨by simp, fun c' t e => ?_⟩⟩
    ·intro x hx;rcases List.mem_cons.1 hx with rfl | hx
     ·unfold isDK; omega
     ·exact k2 x hx
    ·injection e with e1 e2;subst e1;intro e3;exact h2 (.inr (.inr (.inl ⟨h0, e3⟩)))
theorem cutE_inv (l : Bs) (x : Pr) (h : cutE l = some x) : l = x.1 ++ 61#8 :: x.2 ∧ 61#8 ∉ x.1 := by
 induction l generalizing x with
 | nil => simp [cutE] at h
 | cons c r ih =>
  rw [cutE] at h;split at h
  ·rename_i hc;injection h with h; subst h;exact ⟨by rw [hc]; rfl, by simp⟩
  ·rename_i hc;split at h
   ·cases h
   ·rename_i y hy;injection h with h; subst h;obtain ⟨e1, e2⟩ := ih y hy;refine ⟨by rw [e1]; rfl, ?_⟩;rw [List.mem_cons, not_or];exact ⟨fun e => hc e.symm, e2⟩
theorem pow_le_nd (n : Nat) (h : 0 < n) : 10 ^ (Lib.nDigits n - 1) ≤ n := by
 induction n using Nat.strongRecOn with
 | _ n ih =>
  by_cases hn : n < 10
  ·rw [Lib.nDigits_small hn, Nat.sub_self, Nat.pow_zero]; exact h
  ·have h1 := ih (n / 10) (by omega) (by omega);have h2 := Lib.nDigits_pos (n / 10);rw [Lib.nDigits_big hn, Nat.add_sub_cancel];obtain ⟨k, hk⟩ : ∃ k, Lib.nDigits (n / 10) = k + 1 := ⟨Lib.nDigits (n / 10) - 1, by omega⟩;rw [hk, Nat.add_sub_cancel] at h1;rw [hk, Nat.pow_succ];omega
theorem rc1_inv {b : Bs} {x : Pr} {n : Nat} (h : rc1 b = .ok x n) : ∃ r, b = decK n ++ 32#8 :: (x.1 ++ 61#8 :: (x.2 ++ 10#8 :: r)) ∧ Lib.nDigits n ≤ 7 ∧ n = x.1.length + x.2.length + 3 + Lib.nDigits n := by
 unfold rc1 at h;split at h
 ·cases h
 split at h
 ·cases h
 split at h
 ·cases h
 split at h
 ·cases h
 rename_i h1 h2 h3 h4;have hg := la_good b (by omega);obtain ⟨ds, r, e1, e2, e3, e4, e5⟩ := la_inv 0 0 b (by omega);generalize la 0 0 b = L at *;obtain ⟨N, I, y⟩ := L;simp only at *;obtain ⟨d1, d2⟩ := e5 trivial;rw [Nat.zero_add] at e3;split at h
 ·cases h
 ·rename_i z hz;split at h
  ·rename_i hc;injection h with q1 q2;subst q1 q2;obtain ⟨k1, k2⟩ := cutE_inv _ _ hz;have hds : ds = decK N := by rw [e4]; exact dec_uniq ds e2 d2 d1
   have hnd : Lib.nDigits N = I := by rw [← dec_len, ← hds, e3]
   have h10 : b[N - 1]? = some 10#8 := by
    by_cases hq : b[N - 1]? = some 10#8
    ·exact hq
    ·exact absurd hq h4
   have hbl : b = b.take (N - 1) ++ 10#8 :: b.drop N := by
    have hlt : N - 1 < b.length := by omega
    conv => lhs; rw [← List.take_append_drop (N - 1) b]
    rw [List.drop_eq_getElem_cons hlt, show N - 1 + 1 = N by omega];rw [List.getElem?_eq_getElem hlt] at h10;injection h10 with h10;rw [h10]
   have hpre : b.take (I + 1) = ds ++ [32#8] := by
    have e0 : b = (ds ++ [32#8]) ++ r := by rw [e1]; simp
    rw [e0];apply List.take_left';simp [e3]
   have htk : b.take (N - 1) = ds ++ 32#8 :: (z.1 ++ 61#8 :: z.2) := by
    rw [← List.take_append_drop (I + 1) (b.take (N - 1)), k1, List.take_take, Nat.min_eq_left (by omega), hpre];simp
   have hlen := congrArg List.length k1;simp only [List.length_drop, List.length_take, List.length_append, List.length_cons] at hlen;refine ⟨b.drop N, ?_, by omega, by omega⟩
   conv => lhs; rw [hbl, htk]
   rw [hds];simp
  ·cases h
theorem lng_right (x : Pr) (n : Nat) (h7 : Lib.nDigits n ≤ 7) (h : n = x.1.length + x.2.length + 3 + Lib.nDigits n) : lng x ≠ 0 ∧ lng x ≤ n ∧ n ≤ lng x + 1 := by
 have hp := Lib.nDigits_pos n;have hlt := Lib.lt_pow_nDigits n;have hge := pow_le_nd n (by omega);rcases lng_spec x with ⟨h0, h1⟩ | ⟨e, h1, h2, h3, h4, h5, h6⟩
 ·exact absurd (by omega) (h1 (Lib.nDigits n) hp h7)
 ·have he : e ≤ Lib.nDigits n := by
   rcases Nat.lt_or_ge (Lib.nDigits n) e with hq | hq
   ·exact absurd (by omega) (h6 (Lib.nDigits n) hp hq)
   ·exact hq
  have he2 : Lib.nDigits n ≤ e + 1 := by
   rcases Nat.lt_or_ge (e + 1) (Lib.nDigits n) with hq | hq
   ·exfalso;have hm : 10 ^ (e + 1) ≤ 10 ^ (Lib.nDigits n - 1) := Nat.pow_le_pow_right (by decide) (by omega);have hs : 10 ^ (e + 1) = 10 * 10 ^ e := by rw [Nat.pow_succ, Nat.mul_comm]
    have h10 : 10 ≤ 10 ^ e := by
     have : 10 ^ 1 ≤ 10 ^ e := Nat.pow_le_pow_right (by decide) h1
     simpa using this
    omega
   ·exact hq
  omega
theorem prs_back (b : Bs) (p : Nat) (acc m : List Pr) (hp : p ≤ b.length) (h : prs b p acc = (m, 0, 0)) : ∃ q, m = acc ++ q ∧ (∀ x ∈ q, canP x = true ∧ lng x ≠ 0) ∧ (prt q).length ≤ b.length - p ∧ b.length - p ≤ (prt q).length + q.length ∧ ((prt q).length = b.length - p → prt q = b.drop p) := by
 induction hk : b.length - p using Nat.strongRecOn generalizing p acc m with
 | _ k ih =>
  by_cases hlt : p < b.length
  ·cases hr : rc1 (b.drop p) with
   | bad n e =>
    rw [prs_bad b p acc hlt n e hr] at h;have := rc1_bad hr;injection h with _ h;injection h with _ h;omega
   | ok x n =>
    rw [prs_ok b p acc hlt x n hr] at h;have h5 := rc1_ok hr;rw [List.length_drop] at h5;obtain ⟨r, i1, i2, i3⟩ := rc1_inv hr;obtain ⟨l1, l2, l3⟩ := lng_right x n i2 i3;obtain ⟨q, j1, j2, j3, j4, j5⟩ := ih (b.length - (p + n)) (by omega) (p + n) (acc ++ [x]) m (by omega) h rfl;have hL := rec1_len x l1;refine ⟨x :: q, by rw [j1]; simp, ?_, ?_, ?_, ?_⟩
    ·intro y hy;rcases List.mem_cons.1 hy with rfl | hy
     ·exact ⟨h5.2.2.2.2, l1⟩
     ·exact j2 y hy
    ·rw [prt, List.length_append, hL]; omega
    ·rw [prt, List.length_append, hL, List.length_cons]; omega
    ·intro he;rw [prt, List.length_append, hL] at he;have hn : lng x = n := by omega
     have e5 := j5 (by omega);rw [prt, e5, ← List.drop_drop];have hdn : (b.drop p).take n = rec1 x := by
      have e0 : b.drop p = (decK n ++ 32#8 :: (x.1 ++ 61#8 :: (x.2 ++ [10#8]))) ++ r := by rw [i1]; simp
      rw [e0, rec1, hn];apply List.take_left';simp only [List.length_append, List.length_cons, List.length_nil, dec_len];omega
     rw [← hdn];exact List.take_append_drop n _
  ·rw [prs_end b p acc hlt] at h;injection h with h _;exact ⟨[], by rw [h]; simp, by simp, by simp [prt], by simp [prt]; omega, fun _ => by
    rw [List.drop_eq_nil_of_le (by omega)]; rfl⟩
end Go.Proofs.YtlenihpbhlfcoaaGreatDoor
