import Derived.Test.YtoegbaenheeogaaNfQ
import Derived.Test.YtoegbaenheeogaaNgF
namespace Go.Proofs.Ytoegbaenheeogaa
open Go.RowKit
set_option linter.unusedVariables false
/-! ### Records of headers as rows of fields, pure -/
/-- A field of a record. -/
def fd (b : List By) (o n : Nat) : List By := (b.drop o).take n
/-- A field written over. -/
def pt (b : List By) (o : Nat) (l : List By) : List By := b.take o ++ (l ++ b.drop (o + l.length))
theorem pt_length (b l : List By) (o : Nat) (h : o + l.length ≤ b.length) : (pt b o l).length = b.length := by
  unfold pt
  rw [List.length_append, List.length_append, List.length_take, List.length_drop]; omega
theorem pt_at (A X B Y : List By) (h : Y.length = X.length) : pt (A ++ (X ++ B)) A.length Y = A ++ (Y ++ B) := by
  unfold pt
  have e : (A ++ (X ++ B)).drop (A.length + X.length) = B := by
    rw [← List.append_assoc]
    exact List.drop_left' (by rw [List.length_append])
  rw [List.take_left' rfl, h, e]
theorem fd_at (A X B : List By) : fd (A ++ (X ++ B)) A.length X.length = X := by
  unfold fd
  rw [List.drop_left' rfl, List.take_left' rfl]
/-- The fields' widths. -/
def Ws : List Nat := [100, 8, 8, 8, 12, 12, 8, 1, 100, 8, 32, 32, 8, 8, 155, 12]
def Fs (L : List (List By)) : Prop := L.map List.length = Ws
theorem flat_cut (L : List (List By)) (k : Nat) (hk : k < L.length) : L.flatten = (L.take k).flatten ++ (L[k] ++ (L.drop (k + 1)).flatten) := by
  have e : L = L.take k ++ (L[k] :: L.drop (k + 1)) := by
    rw [← List.drop_eq_getElem_cons hk, List.take_append_drop]
  have := congrArg List.flatten e
  rw [List.flatten_append, List.flatten_cons] at this
  exact this
theorem Fs.len {L : List (List By)} (h : Fs L) : L.length = 16 := by
  have := congrArg List.length h
  rw [List.length_map] at this
  exact this
theorem Fs.width {L : List (List By)} (h : Fs L) (k : Nat) (hk : k < L.length) (n : Nat) (hn : Ws[k]? = some n) : L[k].length = n := by
  have e := congrArg (·[k]?) h
  simp only [List.getElem?_map] at e
  rw [hn, List.getElem?_eq_getElem hk] at e
  injection e
theorem Fs.off {L : List (List By)} (h : Fs L) (k : Nat) : (L.take k).flatten.length = (Ws.take k).sum := by
  rw [List.length_flatten, List.map_take, h]
theorem Fs.length {L : List (List By)} (h : Fs L) : L.flatten.length = 512 := by
  rw [List.length_flatten, h]; decide
theorem Fs.set {L : List (List By)} (h : Fs L) (k : Nat) (Y : List By) (hn : Ws[k]? = some Y.length) : Fs (L.set k Y) := by
  unfold Fs
  rw [List.map_set, h]
  obtain ⟨hk, e⟩ := List.getElem?_eq_some_iff.1 hn
  rw [← e, List.set_getElem_self]
theorem Fs.pt {L : List (List By)} (h : Fs L) (k o : Nat) (Y : List By) (ho : (Ws.take k).sum = o) (hn : Ws[k]? = some Y.length) : pt L.flatten o Y = (L.set k Y).flatten := by
  have hk : k < L.length := by rw [h.len]; exact (List.getElem?_eq_some_iff.1 hn).1
  have hw := h.width k hk _ hn
  have hk2 : k < (L.set k Y).length := by rw [List.length_set]; exact hk
  rw [flat_cut L k hk, flat_cut (L.set k Y) k hk2, ← ho, ← h.off k, pt_at _ _ _ _ hw.symm, List.getElem_set_self, List.take_set, List.set_eq_of_length_le (by rw [List.length_take]; omega), List.drop_set_of_lt (by omega)]
theorem Fs.fd {L : List (List By)} (h : Fs L) (k o n : Nat) (ho : (Ws.take k).sum = o) (hn : Ws[k]? = some n) : fd L.flatten o n = L.getD k [] := by
  have hk : k < L.length := by rw [h.len]; exact (List.getElem?_eq_some_iff.1 hn).1
  have hw := h.width k hk _ hn
  rw [flat_cut L k hk, ← ho, ← h.off k, ← hw, fd_at, List.getD_eq_getElem?_getD, List.getElem?_eq_getElem hk]; rfl
/-- What is said of a number: it, and the error. -/
def nmN (b : List By) : Int := if 128 ≤ (b.headD 0).toNat then binN b else (octN b : Nat)
def nmE (b : List By) : Nat := if 128 ≤ (b.headD 0).toNat then binE b else octE b
theorem numA_eq (b : List By) : numA b = .tuple #[.int .i64 (nmN b), .int .i64 (nmE b : Nat)] := by
  unfold numA nmN nmE
  split <;> rfl
/-! ### A header -/
structure Hr where
  form : Int
  name : ByteArray
  pfx : ByteArray
  mode : Int
  uid : Int
  gid : Int
  size : Int
  time : Int
  typ : By
  link : ByteArray
  user : ByteArray
  group : ByteArray
  major : Int
  minor : Int
def Hr.C (h : Hr) : Array Value := #[.int .i64 h.form, .string h.name, .string h.pfx, .int .i64 h.mode, .int .i64 h.uid, .int .i64 h.gid, .int .i64 h.size, .int .i64 h.time, .int .u8 h.typ.toNat, .string h.link, .string h.user, .string h.group, .int .i64 h.major, .int .i64 h.minor]
def eS : ByteArray := ⟨#[]⟩
def hZ : Hr := ⟨0, eS, eS, 0, 0, 0, 0, 0, 0#8, eS, eS, eS, 0, 0⟩
def i64 (n : Int) : Prop := -9223372036854775808 ≤ n ∧ n ≤ 9223372036854775807
structure Hr.Ok (h : Hr) : Prop where
  form : i64 h.form
  mode : i64 h.mode
  uid : i64 h.uid
  gid : i64 h.gid
  size : i64 h.size
  time : i64 h.time
  major : i64 h.major
  minor : i64 h.minor
  name : h.name.size ≤ 140737488351232
  pfx : h.pfx.size ≤ 140737488351232
  link : h.link.size ≤ 140737488351232
  user : h.user.size ≤ 140737488351232
  group : h.group.size ≤ 140737488351232
/-- The magic of a form; where its fields end. -/
def mg (f : Nat) : List By := if f = 2 then [117#8, 115#8, 116#8, 97#8, 114#8, 0#8, 48#8, 48#8] else if f = 3 then [117#8, 115#8, 116#8, 97#8, 114#8, 32#8, 32#8, 0#8] else [0#8, 0#8, 0#8, 0#8, 0#8, 0#8, 0#8, 0#8]
def fE (f : Nat) : Nat := if f = 2 then 500 else if f = 3 then 345 else 257
def mgOf (b : List By) : Nat := if fd b 257 8 = mg 1 then 1 else if fd b 257 8 = mg 2 then 2 else if fd b 257 8 = mg 3 then 3 else 0
/-! ### Decode -/
def tyOf (b : List By) : By := if b.getD 156 0 = 0#8 then 48#8 else b.getD 156 0
def dT (b : List By) (f i k o n : Nat) : ByteArray := if k < i ∧ o < fE f then str (txt (fd b o n)) else eS
def dN (b : List By) (f j k o n : Nat) : Int := if k < j ∧ o < fE f then nmN (fd b o n) else 0
/-- A header of which the first i texts and j numbers are read. -/
def dH (b : List By) (f i j : Nat) : Hr := ⟨f, dT b f i 0 0 100, dT b f i 4 345 155, dN b f j 0 100 8, dN b f j 1 108 8, dN b f j 2 116 8, dN b f j 3 124 12, dN b f j 4 136 12, tyOf b, dT b f i 1 157 100, dT b f i 2 265 32, dT b f i 3 297 32, dN b f j 5 329 8, dN b f j 6 337 8⟩
/-- The numbers' fields: from, width, may be below 0. -/
def nF : List (Nat × Nat × Bool) := [(100, 8, false), (108, 8, false), (116, 8, false), (124, 12, false), (136, 12, true), (329, 8, false), (337, 8, false)]
def nbE (b : List By) (o n : Nat) (bl : Bool) : Nat := if nmE (fd b o n) = 0 then (if 0 ≤ nmN (fd b o n) ∨ bl = true then 0 else 121) else nmE (fd b o n)
/-- The first of the numbers that can't be: its place and the error. -/
def scN (b : List By) (f : Nat) : List (Nat × Nat × Bool) → Nat × Nat
  | [] => (0, 0)
  | (o, n, bl) :: l => if o < fE f ∧ nbE b o n bl ≠ 0 then (o, nbE b o n bl) else scN b f l
def decE (b : List By) : Nat := if chk b = true then (if mgOf b = 0 then 130 else (scN b (mgOf b) nF).2) else 131
def decP (b : List By) : Nat := if chk b = true then (if mgOf b = 0 then 257 else (scN b (mgOf b) nF).1) else 148
def decH (b : List By) : Hr := if decE b = 0 then dH b (mgOf b) 5 7 else hZ
/-! ### Encode -/
def zs (n : Nat) : List By := List.replicate n 0#8
/-- A number's bytes in a form, and the error. -/
def nL (f : Nat) (x : Int) (n : Nat) : List By := if f = 3 then pnL x n else poL x n
def nE (f : Nat) (x : Int) (n : Nat) : Nat := if f = 3 then pnE x n else poE x n
def eT (f i k o n : Nat) (s : ByteArray) : List By := if k < i ∧ o < fE f then pxL s n else zs n
def eN (f j k o n : Nat) (x : Int) : List By := if k < j ∧ o < fE f then nL f x n else zs n
/-- The fields of a header's record of which the first i texts and j numbers are written, t the type's and m the magic's. -/
def eL (h : Hr) (f i j : Nat) (t m : List By) : List (List By) := [eT f i 0 0 100 h.name, eN f j 0 100 8 h.mode, eN f j 1 108 8 h.uid, eN f j 2 116 8 h.gid, eN f j 3 124 12 h.size, eN f j 4 136 12 h.time, zs 8, t, eT f i 1 157 100 h.link, m, eT f i 2 265 32 h.user, eT f i 3 297 32 h.group, eN f j 5 329 8 h.major, eN f j 6 337 8 h.minor, eT f i 4 345 155 h.pfx, zs 12]
/-- The texts: from, width, the text; the numbers: from, width, the number, may it be below 0. -/
def Hr.ts (h : Hr) : List (Nat × Nat × ByteArray) := [(0, 100, h.name), (157, 100, h.link), (265, 32, h.user), (297, 32, h.group), (345, 155, h.pfx)]
def Hr.ns (h : Hr) : List (Nat × Nat × Int × Bool) := [(100, 8, h.mode, false), (108, 8, h.uid, false), (116, 8, h.gid, false), (124, 12, h.size, false), (136, 12, h.time, true), (329, 8, h.major, false), (337, 8, h.minor, false)]
def tCan (f : Nat) (x : Nat × Nat × ByteArray) : Bool := noZ x.2.2 && (decide (x.2.2 = eS) || decide (x.1 < fE f))
def nCan (f : Nat) (x : Nat × Nat × Int × Bool) : Bool := decide (x.2.2.1 = 0) || decide (x.1 < fE f)
def tFit (f : Nat) (x : Nat × Nat × ByteArray) : Bool := decide (fE f ≤ x.1) || decide (pxE x.2.2 x.2.1 = 0)
def nFit (f : Nat) (x : Nat × Nat × Int × Bool) : Bool := decide (fE f ≤ x.1) || (decide (nE f x.2.2.1 x.2.1 = 0) && (decide (0 ≤ x.2.2.1) || x.2.2.2))
def Hr.can (h : Hr) (f : Nat) : Bool := h.ts.all (tCan f) && h.ns.all (nCan f)
def Hr.fit (h : Hr) (f : Nat) : Bool := h.ts.all (tFit f) && h.ns.all (nFit f)
def Hr.fm (h : Hr) : Nat := if h.form = 1 then 1 else if h.form = 2 then 2 else if h.form = 3 then 3 else 0
def encE (h : Hr) : Nat := if h.fm ≠ 0 ∧ h.can h.fm = true then (if h.typ = 0#8 then 132 else if h.fit h.fm = true then 0 else 133) else 1
def encL (h : Hr) : List (List By) := eL h h.fm 5 7 [h.typ] (mg h.fm)
def encR (h : Hr) : List By := if encE h = 0 then psm (encL h).flatten else zrec
end Go.Proofs.Ytoegbaenheeogaa
