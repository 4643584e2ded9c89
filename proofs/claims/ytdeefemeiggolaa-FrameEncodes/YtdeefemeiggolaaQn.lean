import Derived.Test.YtdeefemeiggolaaQm
import Derived.Test.YtdeefemeiggolaaQa
import Derived.Maps.OwnSet
import Derived.DeepKeys4
import Derived.Test.YtdeefemeiggolaaQh
import Derived.Laws.Cover3
import Derived.Laws.Rows
namespace Go.Proofs.Ytdeefemeiggolaa
open Go.RowKit
set_option linter.unusedVariables false
/-! ### The encoder, as functions of the text -/
/-- The four bytes at a place. -/
def kat (T : List By) (p : Nat) : List By := (T.drop p).take 4
abbrev Pm := List By → Option Nat
/-- What is noted of all places ahead of one: near, far. -/
def ups (T : List By) : Nat → Pm × Pm
  | 0 => (fun _ => none, fun _ => none)
  | p + 1 => (fun k => if k = kat T p then some p else (if p % 65536 = 0 then fun _ => none else (ups T p).1) k, if p % 65536 = 0 then (ups T p).1 else (ups T p).2)
/-- Where the four bytes at a place stood last. -/
def fnd (T : List By) (a : Nat) : Option Nat := match (ups T a).1 (kat T a) with
  | some q => if a - q ≤ 65535 then some q else none
  | none => match (ups T a).2 (kat T a) with
    | some q => if a - q ≤ 65535 then some q else none
    | none => none
/-- How many bytes are the same. -/
def cm : List By → List By → Nat
  | x :: xs, y :: ys => if x = y then cm xs ys + 1 else 0
  | _, _ => 0
/-- How many bytes ahead are the same. -/
def alkA (T : List By) (b : Nat) : Nat → Nat → Nat
  | 0, _ => 0
  | f + 1, a => if b < a ∧ T[f]? = T[a - 1]? then alkA T b f (a - 1) + 1 else 0
/-- The encoder's rounds. -/
inductive EncTo (T : List By) : Nat → Nat → List Sq → List Sq × Nat → Prop
  | done {b a : Nat} {ms : List Sq} : ¬ a + 12 ≤ T.length → EncTo T b a ms (ms, b)
  | skip {b a : Nat} {ms : List Sq} {r : List Sq × Nat} : a + 12 ≤ T.length → fnd T a = none → EncTo T b (a + 1) ms r → EncTo T b a ms r
  | hit {b a f k n : Nat} {ms : List Sq} {r : List Sq × Nat} : a + 12 ≤ T.length → fnd T a = some f → k = alkA T b f a → n = cm ((T.take (T.length - 5)).drop (f - k)) ((T.take (T.length - 5)).drop (a - k)) →
      EncTo T (a - k + n) (a - k + n) (ms ++ [⟨(T.drop b).take (a - k - b), a - f, n⟩]) r → EncTo T b a ms r
theorem EncTo.uniq {T : List By} {b a : Nat} {ms : List Sq} {r r' : List Sq × Nat} (h : EncTo T b a ms r) (h' : EncTo T b a ms r') : r = r' := by
  induction h with
  | done h1 =>
    cases h' with
    | done _ => rfl
    | skip h2 => exact absurd h2 h1
    | hit h2 => exact absurd h2 h1
  | skip h1 h2 _ ih =>
    cases h' with
    | done h3 => exact absurd h1 h3
    | skip _ _ h3 => exact ih h3
    | hit _ h3 => rw [h2] at h3; cases h3
  | hit h1 h2 h3 h4 _ ih =>
    cases h' with
    | done h5 => exact absurd h1 h5
    | skip _ h5 => rw [h2] at h5; cases h5
    | hit _ h5 h6 h7 h8 =>
      rw [h2] at h5
      injection h5 with h5
      subst h5
      subst h3 h6
      subst h4 h7
      exact ih h8
theorem ups_in (T : List By) : ∀ (a : Nat) (k : List By) (q : Nat), ((ups T a).1 k = some q ∨ (ups T a).2 k = some q) → q < a ∧ k = kat T q := by
  intro a
  induction a with
  | zero => intro k q h; simp [ups] at h
  | succ a ih =>
    intro k q h
    simp only [ups] at h
    by_cases hm : a % 65536 = 0
    · simp only [hm, if_true] at h
      rcases h with h | h
      · by_cases hk : k = kat T a
        · rw [if_pos hk] at h; injection h with h; subst h; exact ⟨by omega, hk⟩
        · rw [if_neg hk] at h; cases h
      · have := ih k q (.inl h); exact ⟨by omega, this.2⟩
    · simp only [hm, if_false] at h
      rcases h with h | h
      · by_cases hk : k = kat T a
        · rw [if_pos hk] at h; injection h with h; subst h; exact ⟨by omega, hk⟩
        · rw [if_neg hk] at h
          have := ih k q (.inl h); exact ⟨by omega, this.2⟩
      · have := ih k q (.inr h); exact ⟨by omega, this.2⟩
theorem fnd_in {T : List By} {a f : Nat} (h : fnd T a = some f) : f < a ∧ a - f ≤ 65535 ∧ kat T a = kat T f := by
  unfold fnd at h
  cases h1 : (ups T a).1 (kat T a) with
  | some q =>
    rw [h1] at h
    simp only at h
    by_cases hq : a - q ≤ 65535
    · rw [if_pos hq] at h; injection h with h; subst h
      have := ups_in T a _ _ (.inl h1); exact ⟨this.1, hq, this.2⟩
    · rw [if_neg hq] at h; cases h
  | none =>
    rw [h1] at h
    simp only at h
    cases h2 : (ups T a).2 (kat T a) with
    | some q =>
      rw [h2] at h
      simp only at h
      by_cases hq : a - q ≤ 65535
      · rw [if_pos hq] at h; injection h with h; subst h
        have := ups_in T a _ _ (.inr h2); exact ⟨this.1, hq, this.2⟩
      · rw [if_neg hq] at h; cases h
    | none => rw [h2] at h; cases h
theorem cm_le : ∀ (x y : List By), cm x y ≤ x.length ∧ cm x y ≤ y.length
  | x :: xs, y :: ys => by
    have := cm_le xs ys
    unfold cm
    split
    · simp only [List.length_cons]; omega
    · simp
  | [], _ => by simp [cm]
  | _ :: _, [] => by simp [cm]
theorem cm_at : ∀ (x y : List By) (j : Nat), j < cm x y → x[j]? = y[j]?
  | x :: xs, y :: ys, j, h => by
    unfold cm at h
    by_cases he : x = y
    · rw [if_pos he] at h
      subst he
      cases j with
      | zero => rfl
      | succ j => simpa using cm_at xs ys j (by omega)
    · rw [if_neg he] at h; omega
  | [], _, j, h => by simp [cm] at h
  | _ :: _, [], j, h => by simp [cm] at h
theorem cm_ge : ∀ (m : Nat) (x y : List By), m ≤ x.length → m ≤ y.length → (∀ j, j < m → x[j]? = y[j]?) → m ≤ cm x y
  | 0, _, _, _, _, _ => Nat.zero_le _
  | m + 1, x :: xs, y :: ys, h1, h2, h => by
    have h0 := h 0 (by omega)
    simp at h0
    subst h0
    unfold cm
    rw [if_pos rfl]
    have := cm_ge m xs ys (by simpa using h1) (by simpa using h2) (fun j hj => by simpa using h (j + 1) (by omega))
    omega
  | m + 1, [], _, h1, _, _ => by simp at h1
  | m + 1, _ :: _, [], _, h2, _ => by simp at h2
theorem alkA_le (T : List By) (b : Nat) : ∀ f a, alkA T b f a ≤ f ∧ alkA T b f a ≤ a - b
  | 0, a => by simp [alkA]
  | f + 1, a => by
    have := alkA_le T b f (a - 1)
    unfold alkA
    split
    · rename_i h; omega
    · omega
theorem alkA_at (T : List By) (b : Nat) : ∀ f a j, j < alkA T b f a → T[f - 1 - j]? = T[a - 1 - j]?
  | 0, a, j, h => by simp [alkA] at h
  | f + 1, a, j, h => by
    unfold alkA at h
    by_cases hc : b < a ∧ T[f]? = T[a - 1]?
    · rw [if_pos hc] at h
      cases j with
      | zero => simpa using hc.2
      | succ j =>
        have := alkA_at T b f (a - 1) j (by omega)
        rw [show f + 1 - 1 - (j + 1) = f - 1 - j by omega, show a - 1 - (j + 1) = a - 1 - 1 - j by omega]
        exact this
    · rw [if_neg hc] at h; omega
/-- A match that is alike copies the text. -/
theorem cop_alike (T : List By) (a back n : Nat) (hb : 1 ≤ back) (hba : back ≤ a) (hn : a + n ≤ T.length) (h : ∀ j, j < n → T[a - back + j]? = T[a + j]?) : cop (T.take a) back n = T.take (a + n) := by
  have hl : (T.take a).length = a := by simp; omega
  symm
  refine Per.cop (all := T.take a) (back := back) (X := T.take (a + n)) ?_ hb (by omega) n (by rw [hl]; simp; omega)
  have e : T.take (a + n) = T.take a ++ (T.drop a).take n := by rw [List.take_add]
  rw [e]
  refine (Per.refl _ _).app (fun i hi => ?_)
  have hi' : i < n := by simp at hi; omega
  rw [hl, ← e, List.getElem?_take, if_pos hi', List.getElem?_take, if_pos (by omega), List.getElem?_drop, ← h i hi', show a - back + i = a + i - back by omega]
theorem ext_255 (n : Nat) : 255 * (ext n).length ≤ n + 240 ∧ (n < 15 → (ext n).length = 0) ∧ (15 ≤ n → 255 * (ext n).length ≤ n + 240) := by
  unfold ext numb
  split
  · rename_i h; exact ⟨by simp, fun _ => rfl, fun h2 => by omega⟩
  · rename_i h; simp; omega
/-- How the encoder stands. -/
structure EI (T : List By) (A b a : Nat) (ms : List Sq) : Prop where
  of ::
  lo : A ≤ b
  hi : b ≤ T.length
  ba : b ≤ a
  can : ∀ s ∈ ms, canS s
  len : 255 * (ms.flatMap encS).length ≤ 256 * (b - A)
  ply : ∀ L rest, scanS (pl (T.take A) (T.length - A)) L (ms.flatMap encS ++ rest) [] = scanS (pl (T.take A) (T.length - A)) L rest ((T.take b).drop A)
  lst : ∀ s, ms.getLast? = some s → 5 ≤ T.length - b ∧ 12 ≤ s.n + (T.length - b)
theorem EI.start (T : List By) (A : Nat) (hA : A ≤ T.length) : EI T A A A [] := by
  refine ⟨Nat.le_refl _, hA, Nat.le_refl _, by simp, by simp, fun L rest => ?_, by simp⟩
  rw [List.drop_of_length_le (by simp; omega)]
  rfl
theorem EI.skip {T : List By} {A b a : Nat} {ms : List Sq} (h : EI T A b a ms) : EI T A b (a + 1) ms := ⟨h.lo, h.hi, by have := h.ba; omega, h.can, h.len, h.ply, h.lst⟩
/-- What a hit gives. -/
structure Hit (T : List By) (b a f k n : Nat) : Prop where
  kf : k ≤ f
  ka : k ≤ a - b
  back : f < a
  far : a - f ≤ 65535
  four : k + 4 ≤ n
  fin : a - k + n ≤ T.length - 5
  same : ∀ j, j < n → T[f - k + j]? = T[a - k + j]?
  top : a + 12 ≤ T.length
theorem hit_of {T : List By} {b a f k n : Nat} (hab : b ≤ a) (h1 : a + 12 ≤ T.length) (h2 : fnd T a = some f) (h3 : k = alkA T b f a) (h4 : n = cm ((T.take (T.length - 5)).drop (f - k)) ((T.take (T.length - 5)).drop (a - k))) : Hit T b a f k n := by
  obtain ⟨g1, g2, g3⟩ := fnd_in h2
  have hk := alkA_le T b f a
  rw [← h3] at hk
  have hle := cm_le ((T.take (T.length - 5)).drop (f - k)) ((T.take (T.length - 5)).drop (a - k))
  rw [← h4] at hle
  have hly : ((T.take (T.length - 5)).drop (a - k)).length = T.length - 5 - (a - k) := by simp
  have hlx : ((T.take (T.length - 5)).drop (f - k)).length = T.length - 5 - (f - k) := by simp
  have same : ∀ j, j < k + 4 → T[f - k + j]? = T[a - k + j]? := by
    intro j hj
    by_cases hjk : j < k
    · have := alkA_at T b f a (k - 1 - j) (by omega)
      rw [show f - 1 - (k - 1 - j) = f - k + j by omega, show a - 1 - (k - 1 - j) = a - k + j by omega] at this
      exact this
    · have := congrArg (fun l => l[j - k]?) g3
      simp only [kat, List.getElem?_take, if_pos (show j - k < 4 by omega), List.getElem?_drop] at this
      rw [show f - k + j = f + (j - k) by omega, show a - k + j = a + (j - k) by omega]
      exact this.symm
  have h4' : k + 4 ≤ n := by
    rw [h4]
    refine cm_ge _ _ _ (by omega) (by omega) (fun j hj => ?_)
    rw [List.getElem?_drop, List.getElem?_drop, List.getElem?_take, List.getElem?_take, if_pos (by omega), if_pos (by omega)]
    exact same j hj
  refine ⟨hk.1, hk.2, g1, g2, h4', by omega, fun j hj => ?_, h1⟩
  have := cm_at ((T.take (T.length - 5)).drop (f - k)) ((T.take (T.length - 5)).drop (a - k)) j (by rw [← h4]; exact hj)
  rw [List.getElem?_drop, List.getElem?_drop, List.getElem?_take, List.getElem?_take, if_pos (by omega), if_pos (by omega)] at this
  exact this
theorem EI.hit {T : List By} {A b a f k n : Nat} {ms : List Sq} (h : EI T A b a ms) (hh : Hit T b a f k n) : EI T A (a - k + n) (a - k + n) (ms ++ [⟨(T.drop b).take (a - k - b), a - f, n⟩]) := by
  obtain ⟨h1, h2, h3, h4, h5, h6, h7, h8⟩ := hh
  have hlo := h.lo
  have hhi := h.hi
  have hba := h.ba
  have hpl : ((T.drop b).take (a - k - b)).length = a - k - b := by simp; omega
  have hc : canS ⟨(T.drop b).take (a - k - b), a - f, n⟩ := ⟨by show 1 ≤ a - f; omega, h4, by show 4 ≤ n; omega⟩
  refine ⟨by omega, by omega, Nat.le_refl _, ?_, ?_, fun L rest => ?_, ?_⟩
  · intro s hs
    rcases List.mem_append.1 hs with hs | hs
    · exact h.can s hs
    · simp at hs; subst hs; exact hc
  · have hl := h.len
    have e1 := ext_255 (a - k - b)
    have e2 := ext_255 (n - 4)
    rw [List.flatMap_append, List.length_append]
    have : ([(⟨(T.drop b).take (a - k - b), a - f, n⟩ : Sq)].flatMap encS).length = 1 + (ext (a - k - b)).length + (a - k - b) + 2 + (ext (n - 4)).length := by
      simp only [List.flatMap_cons, List.flatMap_nil, List.append_nil, encS, List.length_cons, List.length_append, hpl]
      omega
    rw [this]
    by_cases hp15 : a - k - b < 15
    · have := e1.2.1 hp15
      by_cases hn15 : n - 4 < 15
      · have := e2.2.1 hn15; omega
      · omega
    · by_cases hn15 : n - 4 < 15
      · have := e2.2.1 hn15; omega
      · omega
  · rw [List.flatMap_append, List.append_assoc, h.ply]
    have e : [(⟨(T.drop b).take (a - k - b), a - f, n⟩ : Sq)].flatMap encS ++ rest = encS ⟨(T.drop b).take (a - k - b), a - f, n⟩ ++ rest := by simp
    have hTA : (T.take A).length = A := by simp; omega
    have hs1 : ((T.take b).drop A).length = b - A := by simp; omega
    have hp1 : (pl (T.take A) (T.length - A)).plain ((T.take b).drop A) ((T.drop b).take (a - k - b)) = (T.take (a - k)).drop A := by
      show (T.take b).drop A ++ (T.drop b).take (a - k - b) = _
      have e2 : T.take (a - k) = T.take b ++ (T.drop b).take (a - k - b) := by
        rw [← List.take_add, show b + (a - k - b) = a - k by omega]
      rw [e2, List.drop_append_of_le_length (by simp; omega)]
    have hs2 : ((T.take (a - k)).drop A).length = a - k - A := by simp; omega
    have hall : T.take A ++ (T.take (a - k)).drop A = T.take (a - k) := by
      have := List.take_append_drop A (T.take (a - k))
      rw [List.take_take, Nat.min_eq_left (by omega)] at this
      exact this
    rw [e, scan_enc _ L _ rest _ hc]
    · congr 1
      show (pl (T.take A) (T.length - A)).mat ((pl (T.take A) (T.length - A)).plain ((T.take b).drop A) ((T.drop b).take (a - k - b))) (a - f) n = _
      rw [hp1]
      show (cop (T.take A ++ (T.take (a - k)).drop A) (a - f) n).drop (T.take A).length = _
      rw [hall, cop_alike T (a - k) (a - f) n (by omega) (by omega) (by omega) (fun j hj => by
        have := h7 j hj
        rw [show a - k - (a - f) + j = f - k + j by omega]; exact this), hTA]
    · show decide _ = true
      rw [decide_eq_true_eq, hs1]
      show ((T.drop b).take (a - k - b)).length + _ ≤ _
      rw [hpl]; omega
    · show (pl (T.take A) (T.length - A)).reaches ((pl (T.take A) (T.length - A)).plain ((T.take b).drop A) ((T.drop b).take (a - k - b))) (a - f) = true
      rw [hp1]
      show decide _ = true
      rw [decide_eq_true_eq, hTA, hs2]
      omega
    · show (pl (T.take A) (T.length - A)).room ((pl (T.take A) (T.length - A)).plain ((T.take b).drop A) ((T.drop b).take (a - k - b))) n = true
      rw [hp1]
      show decide _ = true
      rw [decide_eq_true_eq, hs2]
      omega
  · intro s hs
    simp at hs
    subst hs
    show 5 ≤ _ ∧ 12 ≤ n + _
    omega
theorem EncTo.good {T : List By} {A b a : Nat} {ms : List Sq} {r : List Sq × Nat} (h : EncTo T b a ms r) (hi : EI T A b a ms) : ∃ a', EI T A r.2 a' r.1 := by
  induction h with
  | done _ => exact ⟨_, hi⟩
  | skip _ _ _ ih => exact ih hi.skip
  | hit h1 h2 h3 h4 _ ih => exact ih (hi.hit (hit_of hi.ba h1 h2 h3 h4))
/-- What the encoder makes. -/
theorem EI.made {T : List By} {A b a : Nat} {ms : List Sq} (h : EI T A b a ms) : (mk ms (T.drop b)).length ≤ T.length - A + (T.length - A) / 255 + 16 ∧ (∀ L, scanS (Go.Proofs.Ytdeefemeiggolaa.pl (T.take A) (T.length - A)) L (mk ms (T.drop b)) [] = .good (T.drop A)) := by
  have hlo := h.lo
  have hhi := h.hi
  have hdl : (T.drop b).length = T.length - b := by simp
  constructor
  · have hl := h.len
    have e1 := ext_255 (T.length - b)
    unfold mk encL
    rw [List.length_append, List.length_cons, List.length_append, hdl]
    by_cases h15 : T.length - b < 15
    · have := e1.2.1 h15; omega
    · omega
  · intro L
    unfold mk
    rw [h.ply]
    have hs1 : ((T.take b).drop A).length = b - A := by simp; omega
    rw [scan_last]
    · show Rs.good ((T.take b).drop A ++ T.drop b) = _
      congr 1
      have := List.take_append_drop b T
      conv => rhs; rw [← this]
      rw [List.drop_append_of_le_length (by simp; omega)]
    · show decide _ = true
      rw [decide_eq_true_eq, hs1, hdl]
      omega
end Go.Proofs.Ytdeefemeiggolaa

namespace Go.Proofs.Ytdeefemeiggolaa
open Go.RowKit Go.ChangeMaps Go.MapKept
set_option linter.unusedVariables false
set_option maxRecDepth 100000
/-! ### Maps under keys of four bytes -/
def kv (k : List By) : Value := .agg (k.map bv).toArray
theorem keyRow : (123 : TypeId) < Try.prog.types.size := of_decide_eq_true (by kernel_rfl)
theorem keyWide : (match Try.prog.underlying 123 with | some (.array _ _) | some (.struct _) => true | _ => false) = true := by kernel_rfl
theorem keyCells : Try.prog.cellsOf 123 = 4 := by kernel_rfl
theorem klaw : Maps.Keyed Try.prog 123 := Maps.Keyed.of_law (deep_law_laid laidOut (m := 2) (by omega) keyRow (by kernel_rfl) keyWide)
theorem keyTyp : Try.prog.keyType 123 = true := by kernel_rfl
theorem u8wf (b : By) : (Lit.int .u8 b.toNat).wf = true := by
  have := b.isLt
  simp [Lit.wf, IntKind.bits, IntKind.signed, IntKind.min, IntKind.max]
  omega
theorem keyOf_kv (k : List By) (hk : k.length = 4) : ∃ l, keyOf Try.prog 123 (kv k) = some l := by
  match k, hk with
  | [a, b, c, d], _ =>
    have hf : (kv [a, b, c, d]).formed Try.prog 123 = true := by simp [kv, Value.formed, Try.underlying123, keyCells]
    have hl : ∃ ls, Try.prog.keyLits (Try.prog.types.size + 1) 123 (kv [a, b, c, d]).cells.toList = some ls := by
      have hlt : 123 < Try.prog.types.size := keyRow
      obtain ⟨m, hm⟩ : ∃ m, Try.prog.types.size = m + 1 := ⟨Try.prog.types.size - 1, by omega⟩
      rw [hm]
      clear hm hlt
      have wa := u8wf a
      have wb := u8wf b
      have wc := u8wf c
      have wd := u8wf d
      simp [Program.keyLits, Try.underlying123, Try.underlying5, keyCells, cells5, kv, Value.cells, List.range_succ, bv, wa, wb, wc, wd]
    obtain ⟨ls, hls⟩ := hl
    refine ⟨.string (keyBytes ls), ?_⟩
    unfold keyOf
    rw [Try.underlying123]
    simp only [keyTyp, hf, Bool.and_self, if_true, hls, Option.map_some]
open Classical in
noncomputable def klit (k : List By) : Lit := if h : ∃ l, keyOf Try.prog 123 (kv k) = some l then h.choose else .bool false
theorem klit_eq (k : List By) (hk : k.length = 4) : keyOf Try.prog 123 (kv k) = some (klit k) := by
  unfold klit
  rw [dif_pos (keyOf_kv k hk)]
  exact (keyOf_kv k hk).choose_spec
theorem kv_inj {k k' : List By} (h : kv k = kv k') : k = k' := by
  unfold kv at h
  injection h with h
  have h2 : k.map bv = k'.map bv := by
    have := congrArg Array.toList h
    simpa using this
  have hinj : ∀ (x y : List By), x.map bv = y.map bv → x = y := by
    intro x
    induction x with
    | nil => intro y h; cases y with
      | nil => rfl
      | cons _ _ => simp at h
    | cons a x ih =>
      intro y h
      cases y with
      | nil => simp at h
      | cons b y =>
        simp only [List.map_cons, List.cons.injEq] at h
        have h1 := h.1
        unfold bv at h1
        injection h1 with _ h1
        rw [ih y h.2, BitVec.eq_of_toNat_eq (Int.ofNat.inj h1)]
  exact hinj _ _ h2
theorem klit_inj {k k' : List By} (hk : k.length = 4) (hk' : k'.length = 4) (h : klit k = klit k') : k = k' := by
  have h1 := klit_eq k hk
  have h2 := klit_eq k' hk'
  rw [← h] at h2
  exact kv_inj (klaw.inj h1 h2)
/-- Block b is a map that reads as m. -/
def MpO (b : Nat) (m : Pm) (n : Nat) (w : World) : Prop := ∃ D : DataW Unit, w.ownsMap Try.prog 123 (plainElem Try.prog 3) b n D ∧ ∀ k, k.length = 4 → match m k with
  | none => Maps.has D (klit k) = false
  | some q => Maps.has D (klit k) = true ∧ D.atKey (klit k) (.lit (.int .i64 0)) = .lit (.int .i64 q)
theorem Fr.grown {X : Nat → Prop} {w w' : World} (h : Fr X w w') (b : Nat) (hb : ¬ X b) : ∀ {P : Program} {k : TypeId} {R : Value → Option (DataW Unit × List MemPlace)} {n : Nat} {D : DataW Unit}, w.ownsMap P k R b n D → w'.ownsMap P k R b n D := by
  intro P k R n D ho
  have hlt := ho.lt
  obtain ⟨es, clock, hbk, F, hs, hD⟩ := ho
  exact ⟨es, clock, (h.block b hlt hb).trans hbk, F, hs, hD⟩
theorem MpO.kept {b : Nat} {m : Pm} {n : Nat} {w w' : World} {X : Nat → Prop} (h : MpO b m n w) (f : Fr X w w') (hb : ¬ X b) : MpO b m n w' := by
  obtain ⟨D, h1, h2⟩ := h
  exact ⟨D, f.grown b hb h1, h2⟩
theorem MpO.nw {b : Nat} {m : Pm} {n : Nat} {w w' : World} (h : MpO b m n w) (f : Nw w w') : MpO b m n w' := h.kept f (fun h => h)
theorem MpO.lt {b : Nat} {m : Pm} {n : Nat} {w : World} (h : MpO b m n w) : b < w.heap.size := by
  obtain ⟨D, h1, _⟩ := h
  exact h1.lt
theorem MpO.mono {b : Nat} {m : Pm} {n n' : Nat} {w : World} (h : MpO b m n w) (hn : n ≤ n') : MpO b m n' w := by
  obtain ⟨D, h1, h2⟩ := h
  exact ⟨D, h1.mono hn, h2⟩
theorem MpO.made (w : World) : MpO w.heap.size (fun _ => none) 0 (w.alloc (.map #[] 0)) := ⟨.map [], World.ownsMap_made _ _ _ _, fun k hk => rfl⟩
theorem zero3 (w : World) : (zeroValue 3).run Try.prog w = .ok (.int .i64 0) w := by kernel_rfl
theorem MpO.look {b : Nat} {m : Pm} {n : Nat} {w : World} (h : MpO b m n w) (k : List By) (hk : k.length = 4) : (Instr.lookup 97 (.map (some b)) (kv k) true).run Try.prog w = .ok (.tuple #[.int .i64 ((m k).getD 0 : Nat), .bool (m k).isSome]) w := by
  obtain ⟨D, h1, h2⟩ := h
  obtain ⟨v, ps, hrun, hv⟩ := h1.look_ok klaw Try.underlying97 (zero3 w) (plainElem_int Try.underlying3 (by decide)) (klit_eq k hk)
  obtain ⟨c, rfl, hc, _⟩ := plainElem_int_inv Try.underlying3 hv
  have hc' := congrArg Prod.fst hc
  simp only at hc'
  have := h2 k hk
  rw [hrun]
  cases hm : m k with
  | none =>
    rw [hm] at this
    simp only at this
    rw [Maps.atKey_of_not_has this] at hc'
    injection hc' with hc'
    injection hc' with _ hc'
    rw [this, ← hc']
    rfl
  | some q =>
    rw [hm] at this
    simp only at this
    rw [this.2] at hc'
    injection hc' with hc'
    injection hc' with _ hc'
    rw [this.1, ← hc']
    rfl
theorem MpO.store {b : Nat} {m : Pm} {n : Nat} {w : World} (h : MpO b m n w) (k : List By) (hk : k.length = 4) (q : Nat) (hq : q < 9223372036854775808) (hn : n ≤ 100000000) : ∃ w', (Instr.mapUpdate 97 (.map (some b)) (kv k) (.int .i64 q)).run Try.prog w = .ok () w' ∧ MpO b (fun x => if x = k then some q else m x) (n + 1) w' ∧ Fr (fun i => i = b) w w' := by
  obtain ⟨D, h1, h2⟩ := h
  have hwf : (Lit.int .i64 (q : Int)).wf = true := by
    simp [Lit.wf, IntKind.bits, IntKind.signed, IntKind.min, IntKind.max]
    omega
  obtain ⟨w', hrun, ho, hg⟩ := h1.update klaw Try.underlying97 (by unfold maxLen; omega) (klit_eq k hk) (plainElem_int (H := Unit) Try.underlying3 hwf)
  refine ⟨w', hrun, ⟨_, ho, fun x hx => ?_⟩, ⟨hg.os, hg.tape, hg.output, hg.size, fun i hi hne => hg.block i hi (fun e => hne (by injection e))⟩⟩
  have hkl := klaw.key (klit_eq k hk)
  by_cases hxk : x = k
  · subst hxk
    simp only [if_true]
    exact ⟨Maps.has_put_same h1.isMap hkl _, Maps.atKey_put_same h1.isMap hkl _ _⟩
  · simp only [if_neg hxk]
    have hne : klit x ≠ klit k := fun e => hxk (klit_inj hx hk e)
    have := h2 x hx
    rw [Maps.has_put_other hne]
    cases hm : m x with
    | none => rw [hm] at this; exact this
    | some p => rw [hm] at this; exact ⟨this.1, by rw [Maps.atKey_put_other hne]; exact this.2⟩
theorem MpO.clear {b : Nat} {m : Pm} {n : Nat} {w : World} (h : MpO b m n w) : ∃ w', (∀ ty, (Builtin.clear_ #[97] ty #[.map (some b)]).run Try.prog w = .ok (.tuple #[]) w') ∧ MpO b (fun _ => none) 0 w' ∧ Fr (fun i => i = b) w w' := by
  obtain ⟨D, ⟨es, clock, hb, F, hs, hD⟩, _⟩ := h
  refine ⟨setBlock w b (.map #[] clock), fun ty => ?_, ⟨.map [], ⟨#[], clock, heap_setBlock_same hb _, ⟨by simp, stamped_empty clock, by simp⟩, Nat.le_refl _, rfl⟩, fun k hk => rfl⟩, ⟨rfl, rfl, rfl, by simp [setBlock], fun i hi hne => heap_setBlock_other hb _ hne⟩⟩
  simp [Builtin.clear_, run_underlying Try.underlying97, MapKept.run_getObj_map hb, run_setObj_map _ hb, Result.andThen]
  rfl
end Go.Proofs.Ytdeefemeiggolaa

namespace Go.Proofs.Ytdeefemeiggolaa
open Go.RowKit
set_option linter.unusedVariables false
theorem cm_step {X : List By} {f t : Nat} (hf : f < X.length) (ht : t < X.length) : cm (X.drop f) (X.drop t) = if X[f] = X[t] then cm (X.drop (f + 1)) (X.drop (t + 1)) + 1 else 0 := by
  rw [List.drop_eq_getElem_cons hf, List.drop_eq_getElem_cons ht, cm]
set_option maxHeartbeats 8000000 in
set_option maxRecDepth 100000 in
theorem alike_any (w : World) (a : Option Addr) (c : Nat) (X : List By) (hIn : In a c X w) (f t : Nat) (hf : f ≤ t) (hX : X.length ≤ 100000000) (ht : t ≤ X.length) :
    Calls Try.prog 58 #[.slice a X.length c, .int .i64 f, .int .i64 t] w fun e w' => e = .returned (.int .i64 (cm (X.drop f) (X.drop t) : Nat)) ∧ Nw w w' := by
  obtain ⟨P, hP⟩ : ∃ P : Ending → World → Prop, P = fun e w' => e = .returned (.int .i64 (cm (X.drop f) (X.drop t) : Nat)) ∧ Nw w w' := ⟨_, rfl⟩
  rw [← hP]
  have HP : Hid (P = fun e w' => e = .returned (.int .i64 (cm (X.drop f) (X.drop t) : Nat)) ∧ Nw w w') := hP
  clear hP
  have hc1 := hIn.1
  have hc2 := hIn.2.1
  have HIn : Hid (In a c X w) := hIn
  clear hIn
  generalize hL : X.length = L at *
  have hL' : Hid (X.length = L) := hL
  clear hL
  go_enter Try.func58, Try.ntmps58
  go_wp2
  go_loopg [7] (L + 1) (fun kx i wr => ∃ (I : Nat), t + I ≤ L ∧ L + 1 - I ≤ kx ∧ i = .int .i64 I ∧ Hid (Nw w wr ∧ cm (X.drop f) (X.drop t) = I + cm (X.drop (f + I)) (X.drop (t + I))))
  case atStart => exact ⟨0, by omega, by omega, rfl, Fr.refl _ _, by simp⟩
  case round =>
    obtain ⟨I, hI, hkx, rfl, HI⟩ := hrel
    have hN := HI.out.1
    have hz1 : (f : Int) + (I : Int) = ((f + I : Nat) : Int) := by omega
    have hz2 : (t : Int) + (I : Int) = ((t + I : Nat) : Int) := by omega
    by_cases hlt : t + I < L
    · obtain ⟨g, o, rfl, x1⟩ := (HIn.out.nw hN).at (f + I) (by rw [hL'.out]; omega)
      obtain ⟨g', o', e', x2⟩ := (HIn.out.nw hN).at (t + I) (by rw [hL'.out]; omega)
      injection e' with e'
      injection e' with e1 e2
      subst e1 e2
      have hst := cm_step (X := X) (f := f + I) (t := t + I) (by rw [hL'.out]; omega) (by rw [hL'.out]; omega)
      have hz3 : ((t + I : Nat) : Int) < (L : Int) := by omega
      have hz4 : ((f + I : Nat) : Int) < (L : Int) := by omega
      have hd0 : decide (t + I < L) = true := decide_eq_true hlt
      by_cases he : X[f + I]'(by rw [hL'.out]; omega) = X[t + I]'(by rw [hL'.out]; omega)
      · have HN : Hid (∀ V, Nw wr V → Nw w V ∧ cm (X.drop f) (X.drop t) = I + 1 + cm (X.drop (f + (I + 1))) (X.drop (t + (I + 1)))) := fun V hV => ⟨hN.trans hV, by
          rw [HI.out.2, hst, if_pos he]
          rw [show f + I + 1 = f + (I + 1) by omega, show t + I + 1 = t + (I + 1) by omega]; omega⟩
        rw [he] at x1
        clear HI HIn hst HP hN he
        generalize (X[t + I]'(by rw [hL'.out]; omega)).toNat = x at *
        generalize t + I = ti at *
        generalize f + I = fi at *
        go_wp2_with fail
        go_quiet (fail)
        go_wp2_with fail
        go_roundg (L + 1 - (I + 1))
        all_goals (first | omega | exact ⟨I + 1, by omega, by omega, by first | rfl | (congr 1), HN.out _ ((Fr.refl _ _).drewN _)⟩)
      · have HF : Hid (∀ V, Nw wr V → P (.returned (.int .i64 I)) V) := fun V hV => by
          rw [HP.out]
          refine ⟨?_, hN.trans hV⟩
          rw [HI.out.2, hst, if_neg he]; rfl
        have hne : ¬ (X[f + I]'(by rw [hL'.out]; omega)).toNat = (X[t + I]'(by rw [hL'.out]; omega)).toNat := fun h => he (BitVec.eq_of_toNat_eq h)
        clear HI HIn hst HP hN he
        generalize (X[t + I]'(by rw [hL'.out]; omega)).toNat = x at *
        generalize (X[f + I]'(by rw [hL'.out]; omega)).toNat = y at *
        have hze : ¬ (y : Int) = (x : Int) := by omega
        have hzb : ((y : Int) == (x : Int)) = false := by simp; omega
        generalize t + I = ti at *
        generalize f + I = fi at *
        go_wp2_with fail
        go_quiet (fail)
        go_wp2_with fail
        exact HF.out _ ((Fr.refl _ _).drewN _)
    · have HF : Hid (∀ V, Nw wr V → P (.returned (.int .i64 I)) V) := fun V hV => by
        rw [HP.out]
        refine ⟨?_, hN.trans hV⟩
        rw [HI.out.2, List.drop_of_length_le (by rw [hL'.out]; omega : X.length ≤ t + I)]
        have : cm (X.drop (f + I)) [] = 0 := by cases X.drop (f + I) <;> rfl
        rw [this]; rfl
      have hz3 : ¬ ((t + I : Nat) : Int) < (L : Int) := by omega
      have hd0 : decide (t + I < L) = false := decide_eq_false hlt
      clear HI HIn HP hN
      generalize t + I = ti at *
      generalize f + I = fi at *
      go_wp2_with fail
      go_quiet (fail)
      go_wp2_with fail
      exact HF.out _ ((Fr.refl _ _).drewN _)
theorem alkA_step {T : List By} {b f t : Nat} (hf : f + 1 ≤ t) (ht : t < T.length + 1) : alkA T b (f + 1) t = if b < t ∧ T[f]'(by omega) = T[t - 1]'(by omega) then alkA T b f (t - 1) + 1 else 0 := by
  rw [alkA, List.getElem?_eq_getElem (by omega), List.getElem?_eq_getElem (by omega)]
  simp only [Option.some.injEq]
set_option maxHeartbeats 8000000 in
set_option maxRecDepth 100000 in
theorem alikeAhead_any (w : World) (a : Option Addr) (c : Nat) (X : List By) (hIn : In a c X w) (f t b : Nat) (hf : f < t) (hb : b ≤ t) (hX : X.length ≤ 100000000) (ht : t ≤ X.length) :
    Calls Try.prog 57 #[.slice a X.length c, .int .i64 f, .int .i64 t, .int .i64 b] w fun e w' => e = .returned (.int .i64 (alkA X b f t : Nat)) ∧ Nw w w' := by
  obtain ⟨P, hP⟩ : ∃ P : Ending → World → Prop, P = fun e w' => e = .returned (.int .i64 (alkA X b f t : Nat)) ∧ Nw w w' := ⟨_, rfl⟩
  rw [← hP]
  have HP : Hid (P = fun e w' => e = .returned (.int .i64 (alkA X b f t : Nat)) ∧ Nw w w') := hP
  clear hP
  have hc1 := hIn.1
  have hc2 := hIn.2.1
  have HIn : Hid (In a c X w) := hIn
  clear hIn
  generalize hL : X.length = L at *
  have hL' : Hid (X.length = L) := hL
  clear hL
  go_enter Try.func57, Try.ntmps57
  go_wp2
  go_loopg [9] (f + 1) (fun kx i wr => ∃ (I : Nat), I ≤ f ∧ I ≤ t - b ∧ f + 1 - I ≤ kx ∧ i = .int .i64 I ∧ Hid (Nw w wr ∧ alkA X b f t = I + alkA X b (f - I) (t - I)))
  case atStart => exact ⟨0, by omega, by omega, by omega, rfl, Fr.refl _ _, by simp⟩
  case round =>
    obtain ⟨I, hI, hI2, hkx, rfl, HI⟩ := hrel
    have hN := HI.out.1
    have hz1 : (f : Int) - (I : Int) = ((f - I : Nat) : Int) := by omega
    have hz2 : (t : Int) - (I : Int) = ((t - I : Nat) : Int) := by omega
    have HF : Hid (alkA X b (f - I) (t - I) = 0 → ∀ V, Nw wr V → P (.returned (.int .i64 I)) V) := fun h0 V hV => by
      rw [HP.out]
      refine ⟨?_, hN.trans hV⟩
      rw [HI.out.2, h0]; rfl
    by_cases hlt : 0 < f - I
    · obtain ⟨fi, hfi⟩ : ∃ fi, f - I = fi + 1 := ⟨f - I - 1, by omega⟩
      replace hz1 : (f : Int) - (I : Int) = (fi : Int) + 1 := by omega
      have hy1 : (0 : Int) < (fi : Int) + 1 := by omega
      have hy2 : (fi : Int) + 1 - 1 = (fi : Int) := by omega
      rw [hfi] at HF
      by_cases hbt : b < t - I
      · obtain ⟨ti, hti⟩ : ∃ ti, t - I = ti + 1 := ⟨t - I - 1, by omega⟩
        replace hz2 : (t : Int) - (I : Int) = (ti : Int) + 1 := by omega
        have hy3 : (b : Int) < (ti : Int) + 1 := by omega
        have hy4 : (ti : Int) + 1 - 1 = (ti : Int) := by omega
        have hd1 : decide ((b : Int) < (ti : Int) + 1) = true := decide_eq_true hy3
        rw [hti] at HF
        obtain ⟨g, o, rfl, x1⟩ := (HIn.out.nw hN).at fi (by rw [hL'.out]; omega)
        obtain ⟨g', o', e', x2⟩ := (HIn.out.nw hN).at ti (by rw [hL'.out]; omega)
        injection e' with e'
        injection e' with e1 e2
        subst e1 e2
        have hst := alkA_step (T := X) (b := b) (f := fi) (t := ti + 1) (by omega) (by rw [hL'.out]; omega)
        have hz3 : (fi : Int) < (L : Int) := by omega
        have hz4 : (ti : Int) < (L : Int) := by omega
        have hfl : fi ≤ 100000000 := by omega
        have htl : ti ≤ 100000000 := by omega
        simp only [Nat.add_sub_cancel] at hst
        by_cases he : X[fi]'(by rw [hL'.out]; omega) = X[ti]'(by rw [hL'.out]; omega)
        · have HN : Hid (∀ V, Nw wr V → Nw w V ∧ alkA X b f t = I + 1 + alkA X b (f - (I + 1)) (t - (I + 1))) := fun V hV => ⟨hN.trans hV, by
            rw [HI.out.2, hfi, hti, hst, if_pos ⟨by omega, he⟩]
            rw [show f - (I + 1) = fi by omega, show t - (I + 1) = ti by omega]; omega⟩
          rw [he] at x1
          clear HI HIn hst HP hN he HF
          generalize (X[ti]'(by rw [hL'.out]; omega)).toNat = x at *
          go_wp2_with fail
          go_quiet (fail)
          go_wp2_with fail
          go_roundg (f + 1 - (I + 1))
          all_goals (first | omega | exact ⟨I + 1, by omega, by omega, by omega, by first | rfl | (congr 1), HN.out _ ((Fr.refl _ _).drewN _)⟩)
        · have HF' : Hid (∀ V, Nw wr V → P (.returned (.int .i64 I)) V) := HF.out (by rw [hst, if_neg (fun h => he h.2)])
          have hne : ¬ (X[fi]'(by rw [hL'.out]; omega)).toNat = (X[ti]'(by rw [hL'.out]; omega)).toNat := fun h => he (BitVec.eq_of_toNat_eq h)
          clear HI HIn hst HP hN he HF
          generalize (X[ti]'(by rw [hL'.out]; omega)).toNat = x at *
          generalize (X[fi]'(by rw [hL'.out]; omega)).toNat = y at *
          have hze : ¬ (y : Int) = (x : Int) := by omega
          have hzb : ((y : Int) == (x : Int)) = false := by simp; omega
          go_wp2_with fail
          go_quiet (fail)
          go_wp2_with fail
          exact HF'.out _ ((Fr.refl _ _).drewN _)
      · have HF' : Hid (∀ V, Nw wr V → P (.returned (.int .i64 I)) V) := HF.out (by rw [alkA, if_neg (fun h => hbt h.1)])
        have hz3 : ¬ (b : Int) < ((t - I : Nat) : Int) := by omega
        have hd1 : decide ((b : Int) < ((t - I : Nat) : Int)) = false := decide_eq_false hz3
        have hd2 : decide (b < t - I) = false := decide_eq_false hbt
        have htl : t - I ≤ 100000000 := by omega
        clear HI HIn HP hN HF
        generalize t - I = ti at *
        go_wp2_with fail
        go_quiet (fail)
        go_wp2_with fail
        exact HF'.out _ ((Fr.refl _ _).drewN _)
    · have h0 : f - I = 0 := by omega
      have HF' : Hid (∀ V, Nw wr V → P (.returned (.int .i64 I)) V) := HF.out (by rw [h0, alkA])
      replace hz1 : (f : Int) - (I : Int) = 0 := by omega
      clear HI HIn HP hN HF
      go_wp2_with fail
      go_quiet (fail)
      go_wp2_with fail
      exact HF'.out _ ((Fr.refl _ _).drewN _)
end Go.Proofs.Ytdeefemeiggolaa

namespace Go.Proofs.Ytdeefemeiggolaa
open Go.RowKit
set_option linter.unusedVariables false
/-- The places of a text, with all ahead of nx noted. -/
structure PLs (pb gT cT nb fb nx : Nat) (T : List By) (w : World) : Prop where
  blk : w.heap[pb]? = some (.cells #[.slice (some ⟨gT, 0, none⟩) T.length cT, .map (some nb), .map (some fb), .int .i64 nx] 99)
  txt : Rd gT 0 T w
  near : MpO nb (ups T nx).1 nx w
  far : MpO fb (ups T nx).2 nx w
  d1 : nb ≠ fb
  d2 : pb ≠ nb
  d3 : pb ≠ fb
  d4 : gT ≠ pb
  d5 : gT ≠ nb
  d6 : gT ≠ fb
  tl : T.length ≤ cT
  tc : cT < 9223372036854775808
theorem PLs.nw {pb gT cT nb fb nx : Nat} {T : List By} {w w' : World} (h : PLs pb gT cT nb fb nx T w) (f : Nw w w') : PLs pb gT cT nb fb nx T w' :=
  ⟨f.heap h.blk, fun j hj => f.cell (h.txt j hj), h.near.nw f, h.far.nw f, h.d1, h.d2, h.d3, h.d4, h.d5, h.d6, h.tl, h.tc⟩
theorem PLs.cell {pb gT cT nb fb nx : Nat} {T : List By} {w : World} (h : PLs pb gT cT nb fb nx T w) : w.cell? ⟨pb, 0, none⟩ = some (.slice (some ⟨gT, 0, none⟩) T.length cT) ∧ w.cell? ⟨pb, 1, none⟩ = some (.map (some nb)) ∧ w.cell? ⟨pb, 2, none⟩ = some (.map (some fb)) ∧ w.cell? ⟨pb, 3, none⟩ = some (.int .i64 nx) := by
  have := h.blk
  refine ⟨?_, ?_, ?_, ?_⟩ <;> simp [World.cell?, this]
theorem PLs.froz {pb gT cT nb fb nx : Nat} {T : List By} {w : World} (h : PLs pb gT cT nb fb nx T w) (j : Nat) : w.frozen? ⟨pb, j, none⟩ = false := by
  have := h.blk
  simp [World.frozen?, this]
theorem kat_four {T : List By} {p : Nat} (hp : p + 4 ≤ T.length) : kat T p = [T[p], T[p + 1], T[p + 2], T[p + 3]] := by
  unfold kat
  rw [List.drop_eq_getElem_cons (by omega), List.drop_eq_getElem_cons (by omega), List.drop_eq_getElem_cons (by omega), List.drop_eq_getElem_cons (by omega)]
  rfl
theorem kat_len {T : List By} {p : Nat} (hp : p + 4 ≤ T.length) : (kat T p).length = 4 := by rw [kat_four hp]; rfl
theorem keySize : (Try.prog.info? 123).map (·.size) = some 4 := by kernel_rfl
set_option maxHeartbeats 4000000 in
set_option maxRecDepth 100000 in
theorem key_cells (V : World) (pb gT cT : Nat) (T : List By) (c0 : V.cell? ⟨pb, 0, none⟩ = some (.slice (some ⟨gT, 0, none⟩) T.length cT)) (htx : Rd gT 0 T V) (htl : T.length ≤ cT) (htc : cT < 9223372036854775808) (hpl : pb < V.heap.size) (p : Nat) (hp : p + 4 ≤ T.length) (hT : T.length ≤ 100000000) :
    Calls Try.prog 73 #[.pointer (some ⟨pb, 0, none⟩), .int .i64 p] V fun e w' => e = .returned (kv (kat T p)) ∧ Nw V w' := by
  obtain ⟨P, hP⟩ : ∃ P : Ending → World → Prop, P = fun e w' => e = .returned (kv (kat T p)) ∧ Nw V w' := ⟨_, rfl⟩
  rw [← hP]
  have HP : Hid (P = fun e w' => e = .returned (kv (kat T p)) ∧ Nw V w') := hP
  clear hP
  have hf : Hid (∀ W, Nw V W → P (.returned (.agg #[.int .u8 T[p].toNat, .int .u8 T[p + 1].toNat, .int .u8 T[p + 2].toNat, .int .u8 T[p + 3].toNat])) W) := fun W hW => by
    rw [HP.out]
    refine ⟨?_, hW⟩
    rw [kat_four hp]; rfl
  have x0 := htx p (by omega)
  have x1 := htx (p + 1) (by omega)
  have x2 := htx (p + 2) (by omega)
  have x3 := htx (p + 3) (by omega)
  rw [Nat.zero_add] at x0 x1 x2 x3
  have hgl : gT < V.heap.size := by have := World.block_lt_of_cell? _ _ x0; simpa using this
  clear HP htx
  simp only [bv] at x0 x1 x2 x3
  generalize T[p].toNat = a at *
  generalize T[p + 1].toNat = b at *
  generalize T[p + 2].toNat = c at *
  generalize T[p + 3].toNat = d at *
  generalize T.length = N at *
  have hz1 : (p : Int) ≤ (N : Int) := by omega
  have hz2 : ¬ cT = p := by omega
  have hz3 : 4 ≤ N - p := by omega
  have hz4 : ¬ N - p < 4 := by omega
  have hn1 : ¬ pb = V.heap.size := by omega
  have hn2 : ¬ gT = V.heap.size := by omega
  have hn3 : ¬ V.heap.size = gT := by omega
  have hat : ∀ W, (Instr.arrayAt 123 (.slice (some ⟨gT, p, none⟩) (N - p) (cT - p))).run Try.prog W = .ok (.pointer (some ⟨gT, p, none⟩)) W := fun W => run_arrayAt W 123 _ 4 _ (N - p) (cT - p) Try.underlying123 (by omega)
  have hA : Nw V (V.alloc (.cells #[.int .u8 0, .int .u8 0, .int .u8 0, .int .u8 0] 123)) := (Fr.refl _ _).alloc _
  go_enter Try.func73, Try.ntmps73
  go_wp2
  refine bodyPost_ret (results_cell_row (p := 4) (ty := 123) rfl _ _ V.heap.size 123 _ _ _ rfl (heap_alloc_new _ _) Try.underlying123 rfl keySize) rfl ?_
  exact hf.out _ ((Fr.refl _ _).alloc _)
theorem key_any (V : World) (pb gT cT nb fb nx : Nat) (T : List By) (h : PLs pb gT cT nb fb nx T V) (p : Nat) (hp : p + 4 ≤ T.length) (hT : T.length ≤ 100000000) :
    Calls Try.prog 73 #[.pointer (some ⟨pb, 0, none⟩), .int .i64 p] V fun e w' => e = .returned (kv (kat T p)) ∧ Nw V w' :=
  key_cells V pb gT cT T h.cell.1 h.txt h.tl h.tc (Array.getElem?_eq_some_iff.1 h.blk).1 p hp hT
end Go.Proofs.Ytdeefemeiggolaa
