import Derived.Test.YtcogkhcfpgelhaaGreatVau
import Derived.Test.YtcogkhcfpgelhaaGreatVav
namespace Go.Proofs.YtcogkhcfpgelhaaGreat
open Go.RowKit
set_option linter.unusedVariables false
set_option maxRecDepth 100000
variable {w w' W : World} {X : Nat → Prop}
/-! ### Rows of numbers -/
def RI : RT Int := { enc := fun x => [.int .i64 x], k := 1, T := 3, TS := 107, z := 0, by_ := 8 }
theorem riOk : RI.Ok := by
  refine ⟨fun _ => rfl, by decide, fun x v hv => ?_, Tryz.underlying107, ?_⟩
  · simp only [RI, List.mem_cons, List.mem_nil_iff, or_false] at hv
    rcases hv with rfl; rfl
  · have h : (Tryz.prog.info? 3).map (fun i => (i.zero, i.size, i.bytes)) = some (some (.int .i64 0), 1, 8) := by kernel_rfl
    cases hq : Tryz.prog.info? 3 with
    | none => simp [hq] at h
    | some i => simp [hq] at h; exact ⟨i, _, hq, h.1, h.2.1, h.2.2, rfl⟩
theorem owR_cut {α : Type} {R : RT α} {g c : Nat} {l : List α} {n : Nat} (h : OwR R g (.slice (some ⟨g, 0, none⟩) l.length c) l w) (hn : n ≤ l.length) : OwR R g (.slice (some ⟨g, 0, none⟩) n c) (l.take n) w := by
  obtain ⟨xs, e, h2, h3, h4, h5⟩ := h
  injection e with _ _ e3
  refine ⟨xs, ?_, ?_, ?_, h4, h5⟩
  · rw [e3, List.length_take, Nat.min_eq_left hn]
  · rw [List.length_take, Nat.min_eq_left hn, ← h2, List.take_take, Nat.min_eq_left hn]
  · rw [List.length_take]; omega
/-! ### The inodes of an image by their numbers -/
def getq (l : List Nq) (k : Int) : Option Nq := l.find? (fun y => decide (y.x.num = k))
theorem getq_get {l : List Nq} (k : Int) : get (l.map Nq.x) k = (getq l k).map Nq.x := by
  unfold get getq
  induction l with
  | nil => rfl
  | cons y r ih =>
    rw [List.map_cons, List.find?_cons, List.find?_cons]
    by_cases h : y.x.num = k
    · rw [decide_eq_true h]; rfl
    · rw [decide_eq_false h]; exact ih
theorem getq_some {l : List Nq} {k : Int} {y : Nq} (h : getq l k = some y) : y ∈ l ∧ y.x.num = k := by
  unfold getq at h
  exact ⟨List.mem_of_find?_eq_some h, by simpa using List.find?_some h⟩
def nqV (y : Nq) : Value := .agg (nqC y)
def mN (l : List Nq) (I : Nat) (k : Int) : Option Value := (getq (l.take I) k).map nqV
theorem mN_step {l : List Nq} (hs : Srt (l.map Nq.x)) {I : Nat} {y : Nq} (hy : l[I]? = some y) : (∀ k, mN l (I + 1) k = if k = y.x.num then some (nqV y) else mN l I k) ∧ mN l I y.x.num = none := by
  have hn : getq (l.take I) y.x.num = none := by
    unfold getq
    rw [List.find?_eq_none]
    intro z hz
    simp only [decide_eq_true_eq]
    obtain ⟨j, hj, hzj⟩ := List.getElem_of_mem hz
    rw [List.length_take] at hj
    have hI := (List.getElem?_eq_some_iff.1 hy).1
    rw [Srt, List.pairwise_map] at hs
    have := List.pairwise_iff_getElem.1 hs j I (by omega) hI (by omega)
    rw [List.getElem_take] at hzj
    obtain ⟨_, hyI⟩ := List.getElem?_eq_some_iff.1 hy
    rw [hzj, hyI] at this
    omega
  refine ⟨fun k => ?_, by unfold mN; rw [hn]; rfl⟩
  unfold mN
  have e : getq (l.take (I + 1)) k = (getq (l.take I) k).or (getq [y] k) := by
    unfold getq
    rw [List.take_add_one, hy, List.find?_append]; rfl
  rw [e]
  by_cases hk : k = y.x.num
  · rw [if_pos hk, hk, hn]
    unfold getq
    simp
  · rw [if_neg hk]
    have : getq [y] k = none := by unfold getq; simp; exact fun e => hk e.symm
    rw [this]; simp
/-- What was named, as the map has it. -/
def nN (N : Int → Nat) (k : Int) : Option Int := if N k = 0 then none else some (N k : Int)
/-- How treeCanBe's maps and its list lie in memory. -/
structure TrM (w : World) (nm nb tb : Nat) (vals : List Value) (m : Int → Option Value) (ln : Nat) (v : Value) (todo : List Int) (N : Int → Nat) (cn : Nat) (W : World) : Prop where
  nw : Nw w W
  mp : Mp (MN vals) nm m ln W
  mc : Mp MC nb (nN N) cn W
  td : OwR RI tb v todo W
  lo : w.heap.size ≤ nm ∧ w.heap.size ≤ nb ∧ w.heap.size ≤ tb
  ne : nm ≠ nb
variable {nm nb tb : Nat} {vals : List Value} {m : Int → Option Value} {ln : Nat} {v : Value} {todo : List Int} {N : Int → Nat} {cn : Nat}
theorem TrM.more (h : TrM w nm nb tb vals m ln v todo N cn W) (f : Nw W w') : TrM w nm nb tb vals m ln v todo N cn w' := ⟨h.nw.trans f, h.mp.nw f, h.mc.nw f, h.td.nw f, h.lo, h.ne⟩
theorem TrM.look (h : TrM w nm nb tb vals m ln v todo N cn W) (k : Int) (hk : I64 k) : (Instr.lookup 157 (.map (some nb)) (.int .i64 k) false).run Tryz.prog W = .ok (.int .i64 (N k)) W := by
  have := h.mc.look1 mcOk k hk
  unfold nN at this
  by_cases h0 : N k = 0
  · rw [if_pos h0] at this
    rw [h0]; exact this
  · rw [if_neg h0] at this; exact this
theorem TrM.bump (h : TrM w nm nb tb vals m ln v todo N cn W) (hc : cn ≤ 1000000) (k : Int) (hk : I64 k) : ∃ W', (Instr.mapUpdate 157 (.map (some nb)) (.int .i64 k) (.int .i64 ((N k : Int) + 1))).run Tryz.prog W = .ok () W' ∧ TrM w nm nb tb vals m ln v todo (bumpN N k) (if 0 < N k then cn else cn + 1) W' ∧ Fr (fun i => i = nb) W W' := by
  obtain ⟨W', r1, r2, r3⟩ := h.mc.store mcOk k hk ((N k : Int) + 1) trivial (by omega)
  refine ⟨W', r1, ?_, r3⟩
  have htd : tg W tb = some 3 := ogr_tg (R := RI) (og := some tb) h.td tb rfl
  have hnb := h.mc.tg
  refine ⟨h.nw.then r3 (fun i hi => .inr (by have := h.lo; omega)), h.mp.kept r3 h.ne, ?_, h.td.kept r3 (fun e => ?_), h.lo, h.ne⟩
  · have := r2 (nN (bumpN N k)) (fun x _ => by
      unfold nN bumpN
      by_cases hx : x = k
      · rw [if_pos hx, if_pos hx, if_neg (by omega), hx]; rfl
      · rw [if_neg hx, if_neg hx])
    have e : (nN N k).isSome = decide (0 < N k) := by
      unfold nN
      by_cases h0 : N k = 0
      · rw [if_pos h0, decide_eq_false (by omega)]; rfl
      · rw [if_neg h0, decide_eq_true (by omega)]; rfl
    rw [e] at this
    by_cases h0 : 0 < N k
    · rw [if_pos h0]; rw [decide_eq_true h0] at this; exact this
    · rw [if_neg h0]; rw [decide_eq_false h0] at this; exact this
  · rw [e, hnb] at htd; cases htd
theorem TrM.push {c : Nat} (h : TrM w nm nb tb vals m ln (.slice (some ⟨tb, 0, none⟩) todo.length c) todo N cn W) (hl : todo.length ≤ 1000000) (k : Int) :
    ∃ tb' c' W', (∀ ty, (appV #[107, 107] ty #[.slice (some ⟨tb, 0, none⟩) todo.length c, .slice (some ⟨W.heap.size, 0, none⟩) 1 1]).run Tryz.prog (W.alloc (.cells #[.int .i64 k] 3)) = .ok (.slice (some ⟨tb', 0, none⟩) (todo.length + 1) c') W') ∧ todo.length + 1 ≤ c' ∧ c' < 9223372036854775808 ∧ TrM w nm nb tb' vals m ln (.slice (some ⟨tb', 0, none⟩) (todo.length + 1) c') (todo ++ [k]) N cn W' := by
  have hN : Nw W (W.alloc (.cells (RI.enc k).toArray 3)) := (Fr.refl _ _).alloc _
  have hb := OwR.built riOk W [k] (RI.enc k).toArray (by simp [flatR]) (by simp)
  obtain ⟨v', g', W', k1, k2, k3, k4⟩ := owR_app riOk _ tb _ todo (h.td.nw hN) (.slice (some ⟨W.heap.size, 0, none⟩) 1 1) [k] ((hb.slr riOk).mono (fun _ h => h.elim)) (by simp only [RI, List.length_singleton]; omega) (by simp only [List.length_singleton]; omega)
  obtain ⟨c', e2, q1, q2⟩ := k2.form
  rw [List.length_append, List.length_singleton] at e2 q1
  subst e2
  have hs := h.nw.size
  have hs2 := hN.size
  have htd : tg W tb = some 3 := ogr_tg (R := RI) (og := some tb) h.td tb rfl
  have f3 : Fr (fun i => i = tb) W W' := hN.any.trans k3
  refine ⟨g', c', W', k1, q1, q2, h.nw.then f3 (fun i hi => .inr (by have := h.lo; omega)), h.mp.kept f3 (fun e => ?_), h.mc.kept f3 (fun e => ?_), k2, ⟨h.lo.1, h.lo.2.1, ?_⟩, h.ne⟩
  · rw [← e, h.mp.tg] at htd; cases htd
  · rw [← e, h.mc.tg] at htd; cases htd
  · rcases k4 with e | e
    · rw [e]; exact h.lo.2.2
    · omega
/-- The last one is taken off. -/
theorem TrM.pop {c : Nat} {k : Int} (h : TrM w nm nb tb vals m ln (.slice (some ⟨tb, 0, none⟩) (todo ++ [k]).length c) (todo ++ [k]) N cn W) : W.cell? ⟨tb, todo.length, none⟩ = some (.int .i64 k) ∧ TrM w nm nb tb vals m ln (.slice (some ⟨tb, 0, none⟩) todo.length c) todo N cn W := by
  constructor
  · have := (h.td.cell riOk todo.length 0 k (.int .i64 k) (by simp) rfl).1
    simpa [RI] using this
  · have := owR_cut (n := todo.length) h.td (by simp)
    rw [List.take_left] at this
    exact ⟨h.nw, h.mp, h.mc, this, h.lo, h.ne⟩
theorem lks_bound {l : List Nd} {B : Nat} (h : ∀ x ∈ l, x.ents.length ≤ B) (k : Int) : lks l k ≤ l.length * B + 1 := by
  have h1 : lkS l k ≤ l.length * B := by
    rw [lkS_sum]
    unfold sumF
    induction l with
    | nil => simp
    | cons x r ih =>
      have := ih (fun y hy => h y (List.mem_cons_of_mem _ hy))
      have h2 := h x (List.mem_cons_self ..)
      have h3 : nameN x.ents k ≤ x.ents.length := List.length_filter_le _ _
      rw [List.map_cons, List.sum_cons, List.length_cons, Nat.add_mul, Nat.one_mul]
      omega
  unfold lks
  split <;> omega
end Go.Proofs.YtcogkhcfpgelhaaGreat

namespace Go.Proofs.YtcogkhcfpgelhaaGreat
open Go.RowKit
set_option linter.unusedVariables false
set_option maxRecDepth 100000
variable {w w' W : World} {X : Nat → Prop}
theorem nqV_vals {l : List Nq} (h : ∀ y ∈ l, 1 ≤ y.x.num) : ∀ i : Nat, (l.map nqV)[i]? ≠ some nodeZ := fun i hi => by
  rw [List.getElem?_map] at hi
  cases hy : l[i]? with
  | none => rw [hy] at hi; cases hi
  | some y =>
    rw [hy] at hi
    have h1 := h y (List.mem_of_getElem? hy)
    simp only [Option.map_some, Option.some.injEq, nqV] at hi
    injection hi with hi
    have := congrArg (fun a : Array Value => a[0]?) hi
    simp at this
    omega
theorem field_ents (y : Nq) (W : World) : (Instr.field 58 (.agg (nqC y)) 5).run Tryz.prog W = .ok (.slice y.e.a y.e.n y.e.c) W := by kernel_rfl
theorem mN_all {l : List Nq} (k : Int) : mN l l.length k = (getq l k).map nqV := by unfold mN; rw [List.take_length]
/-- How the loop over the inodes stands. -/
def TrA (w : World) (nm : Nat) (l : List Nq) (I : Nat) (wr : World) : Prop := Nw w wr ∧ Mp (MN (l.map nqV)) nm (mN l I) I wr
/-- How the loop over what is to come stands. -/
def TrB (w : World) (nm nb : Nat) (l : List Nq) (vis : List Int) (tb c n : Nat) (wr : World) : Prop := ∃ todo ord N ks, Dfs (l.map Nq.x) vis [] todo ord [] N ks ∧ todo.length = n ∧ n ≤ c ∧ c < 9223372036854775808 ∧ TrM w nm nb tb (l.map nqV) (mN l l.length) l.length (.slice (some ⟨tb, 0, none⟩) n c) todo N ks.length wr
/-- How the loop over a directory's entries stands. -/
def TrC (w : World) (nm nb : Nat) (l : List Nq) (vis : List Int) (cur : Int) (y : Nq) (J tb c n : Nat) (wr : World) : Prop := ∃ todo ord N ks, Dfs (l.map Nq.x) vis [cur] todo ord (y.x.ents.take J) N ks ∧ todo.length = n ∧ n ≤ c ∧ c < 9223372036854775808 ∧ TrM w nm nb tb (l.map nqV) (mN l l.length) l.length (.slice (some ⟨tb, 0, none⟩) n c) todo N ks.length wr
section
attribute [local go_sem ↓] appV_fold
set_option maxHeartbeats 32000000 in
theorem tree_any (l : List Nq) (a : Option Addr) (n c : Nat) (hn : n = l.length) (h1 : 1 ≤ n) (h2 : n ≤ 4096) (hb : Bas (l.map Nq.x)) (hm : ImR (.slice a n c) l w) (hw : ∀ y ∈ l, NdW y.x) :
    Calls Tryz.prog 72 #[.slice a n c] w fun e w' => ∃ B, e = .returned (.bool B) ∧ (B = true ↔ Tree (l.map Nq.x)) ∧ Nw w w' := by
  obtain ⟨P, hP⟩ : ∃ P : Ending → World → Prop, P = fun e w' => ∃ B, e = .returned (.bool B) ∧ (B = true ↔ Tree (l.map Nq.x)) ∧ Nw w w' := ⟨_, rfl⟩
  rw [← hP]
  have HF : Hid (∀ V B, Nw w V → (B = true ↔ Tree (l.map Nq.x)) → P (.returned (.bool B)) V) := fun V B hV hB => by rw [hP]; exact ⟨B, rfl, hB, hV⟩
  clear hP
  have hpos : ∀ y ∈ l, 1 ≤ y.x.num := fun y hy => hb.pos y.x (List.mem_map.2 ⟨y, hy, rfl⟩)
  have hmn := mnOk (l.map nqV) (nqV_vals hpos)
  have hm1 : (Instr.makeMap 156 (some (.int .i64 n))).run Tryz.prog w = .ok (.map (some w.heap.size)) (w.alloc (.map #[] 0)) := mkMap_hint hmn n w
  obtain ⟨V, hV⟩ : ∃ V, w.alloc (.map #[] 0) = V := ⟨_, rfl⟩
  obtain ⟨nm, hnm⟩ : ∃ nm, w.heap.size = nm := ⟨_, rfl⟩
  have HA0 : Hid (TrA w nm l 0 V) := ⟨by rw [← hV]; exact (Fr.refl _ _).alloc _, by rw [← hV, ← hnm]; exact (Mp.made w).cong (fun k _ => by simp [mN, getq])⟩
  rw [hV, hnm] at hm1
  have HMN := tHid hmn
  have HNM := tHid hnm
  have HM := tHid hm
  have HB := tHid hb
  have HNN := tHid hn
  have HWW := tHid hw
  have HB1 := tHid h1
  have HB2 := tHid h2
  clear hV hmn hnm hm hb hn hw h1 h2 hpos
  go_enter Tryz.func72, Tryz.ntmps72
  go_wp2_with fail
  clear hm1
  go_loopg [18] n (fun kx i wr => ∃ I : Nat, I ≤ n ∧ n - I ≤ kx ∧ i = .int .i64 I ∧ Hid (TrA w nm l I wr))
  case atStart => exact ⟨0, by omega, by omega, rfl, HA0⟩
  case round =>
    clear HA0
    obtain ⟨I, hI, hkx, rfl, HR⟩ := hrel
    by_cases hlt : I < n
    · have hIl : I < l.length := by rw [← HNN.out]; exact hlt
      obtain ⟨g, o, rfl, hc⟩ := (HM.out.nw HR.out.1).at I hIl
      obtain ⟨y, hy⟩ : ∃ y, l[I] = y := ⟨_, rfl⟩
      rw [hy] at hc
      obtain ⟨c0, c1, c2, c3, c4, c5, c6, c7, c8, c9⟩ := hc
      have hyI : l[I]? = some y := by rw [List.getElem?_eq_getElem hIl, hy]
      have hmy : y ∈ l := by rw [← hy]; exact List.getElem_mem hIl
      obtain ⟨V3, hV3⟩ : ∃ V3, wr.alloc (.cells (nqC y) 58) = V3 := ⟨_, rfl⟩
      have hN3 : Nw wr V3 := by rw [← hV3]; exact (Fr.refl _ _).alloc _
      have hd := NqC.made wr y
      rw [hV3] at hd
      obtain ⟨z0, z1, z2, z3, z4, z5, z6, z7, z8, z9⟩ := hd
      simp only [Nat.zero_add] at z1 z2 z3 z4 z5 z6 z7 z8 z9
      obtain ⟨s1, s2⟩ := mN_step HB.out.srt hyI
      obtain ⟨W3, r1, r2, r3⟩ := (HR.out.2.nw hN3).store HMN.out y.x.num (HWW.out y hmy).n64 (nqV y) ⟨I, by rw [List.getElem?_map, hyI]; rfl⟩ (by have := HB2.out; omega)
      have r1' : (Instr.mapUpdate 156 (.map (some nm)) (.int .i64 y.x.num) (.agg (nqC y))).run Tryz.prog V3 = .ok () W3 := r1
      have HN : Hid (TrA w nm l (I + 1) W3) := by
        refine ⟨(HR.out.1.trans hN3).then r3 (fun i hi => .inr (by have := HNM.out; omega)), ?_⟩
        have := r2 (mN l (I + 1)) (fun x _ => s1 x)
        rw [s2] at this
        exact this
      have hlt2 : (I : Int) < (n : Int) := by omega
      have hltd := decide_eq_true hlt2
      have hltn := decide_eq_true hlt
      have zwj : IntKind.i64.wrap ((I : Int) + 1) = (I : Int) + 1 := by rw [IntKind.wrap_i64]; have := HB2.out; omega
      have HV3 := tHid hV3
      unfold nqC at HV3 r1'
      clear hIl hy hyI hmy hV3 hN3 s1 s2 r1 r2 r3 HR HF HMN
      go_upto_region 5 with fail
      rw [HV3.out]
      clear HV3 c0 c1 c2 c3 c4 c5 c6 c7 c8 c9
      go_wp2_with fail
      go_roundg (n - (I + 1))
      case measure => omega
      case rel => exact ⟨I + 1, by omega, by omega, by first | rfl | (congr 1), HN⟩
    · have hIe : I = n := by omega
      have hlt2 : ¬ (I : Int) < (n : Int) := by omega
      have hltd := decide_eq_false hlt2
      have hltn := decide_eq_false hlt
      have hA := HR.out
      rw [hIe, HNN.out] at hA
      clear HR
      have hm2 : (Instr.makeMap 157 none).run Tryz.prog wr = .ok (.map (some wr.heap.size)) (wr.alloc (.map #[] 0)) := run_makeMap 157 wr
      obtain ⟨W1, s1, s2, s3⟩ := (Mp.made (M := MC) wr).store mcOk 1 ⟨by omega, by omega⟩ 1 trivial (by omega)
      have s1' : (Instr.mapUpdate 157 (.map (some wr.heap.size)) (.int .i64 1) (.int .i64 1)).run Tryz.prog (wr.alloc (.map #[] 0)) = .ok () W1 := s1
      have hS := s2 (nN (fun k => if k = 1 then 1 else 0)) (fun x _ => by unfold nN; by_cases hx : x = 1 <;> simp [hx])
      simp only [Option.isSome_none, Bool.false_eq_true, if_false] at hS
      obtain ⟨nb, hnb⟩ : ∃ nb, wr.heap.size = nb := ⟨_, rfl⟩
      have fW : Nw wr W1 := Fr.then ((Fr.refl _ wr).alloc _) s3 (fun i hi => .inr (by omega))
      have hml := hA.2.lt
      obtain ⟨W2, hW2⟩ : ∃ W2, W1.alloc (.cells #[.int .i64 1] 3) = W2 := ⟨_, rfl⟩
      obtain ⟨tb, htb⟩ : ∃ tb, W1.heap.size = tb := ⟨_, rfl⟩
      have hN2 : Nw W1 W2 := by rw [← hW2]; exact (Fr.refl _ _).alloc _
      have hT := OwR.built riOk W1 [1] #[.int .i64 1] (by simp [flatR, RI]) (by simp)
      have HB0 : Hid (TrB w nm nb l [] tb 1 1 W2) := by
        refine ⟨[1], [1], _, [1], Dfs.start HB.out, rfl, by omega, by omega, ?_⟩
        have hsz := hA.1.size
        have hsz2 := fW.size
        refine ⟨(hA.1.trans fW).trans hN2, (hA.2.nw fW).nw hN2, ?_, ?_, ⟨by have := HNM.out; omega, by omega, by omega⟩, by omega⟩
        · rw [← hnb]; exact hS.nw hN2
        · rw [← hW2, ← htb]; exact hT
      rw [hnb] at hm2 s1'
      clear hA s1 s2 s3 hS fW hml hN2 hT hIe hnb
      go_wp2_with fail
      clear hm2 s1' hW2 htb hltd hltn hlt2
      go_loopg [7] n (fun kx v wr2 => ∃ (vis : List Int) (tb c m : Nat), n - vis.length ≤ kx ∧ v = .slice (some ⟨tb, 0, none⟩) m c ∧ Hid (TrB w nm nb l vis tb c m wr2))
      case atStart => exact ⟨[], tb, 1, 1, by simp, rfl, HB0⟩
      case round =>
        clear HB0
        obtain ⟨vis, tb2, c2, m2, hkx2, rfl, HR⟩ := hrel
        obtain ⟨todo, ord, N, ks, hD, hml, hmc, hc63, hT⟩ := HR.out
        have hfew := hD.few HB.out
        rw [List.length_map, ← HNN.out] at hfew
        by_cases hm0 : 0 < m2
        · have hne : todo ≠ [] := fun e => by rw [e] at hml; simp at hml; omega
          obtain ⟨t0, cur, rfl⟩ : ∃ t0 cur, todo = t0 ++ [cur] := ⟨todo.dropLast, todo.getLast hne, (List.dropLast_concat_getLast hne).symm⟩
          have hmt : m2 = t0.length + 1 := by rw [← hml]; simp
          obtain ⟨m0, hm0e⟩ : ∃ m0, t0.length = m0 := ⟨_, rfl⟩
          rw [← hml] at hT
          obtain ⟨hcell, hTp⟩ := hT.pop
          rw [hm0e] at hcell hTp hmt
          have hDp := hD.pop
          obtain ⟨x, hxm, hxn, hxk⟩ := hD.dir cur (hD.perm.mem_iff.1 (by simp))
          obtain ⟨y, hyl, rfl⟩ := List.mem_map.1 hxm
          have hg1 : get (l.map Nq.x) cur = some y.x := by rw [← hxn]; exact get_mem HB.out.srt hxm
          have hgq : getq l cur = some y := by
            have := getq_get (l := l) cur
            rw [hg1] at this
            cases hq : getq l cur with
            | none => rw [hq] at this; cases this
            | some z =>
              rw [hq] at this
              simp only [Option.map_some, Option.some.injEq] at this
              obtain ⟨hz1, hz2⟩ := getq_some hq
              obtain ⟨i, hi, e1⟩ := List.getElem_of_mem hz1
              obtain ⟨j, hj, e2⟩ := List.getElem_of_mem hyl
              have hs := HB.out.srt
              rw [List.pairwise_map] at hs
              have hs := List.pairwise_iff_getElem.1 hs
              rcases Nat.lt_trichotomy i j with h3 | h3 | h3
              · have := hs i j hi hj h3
                rw [e1, e2, hz2, hxn] at this; omega
              · subst h3; rw [e1] at e2; rw [e2]
              · have := hs j i hj hi h3
                rw [e1, e2, hz2, hxn] at this; omega
          have hwy := HWW.out y hyl
          have hc64 : I64 cur := by rw [← hxn]; exact hwy.n64
          have hlk : (Instr.lookup 156 (.map (some nm)) (.int .i64 cur) false).run Tryz.prog wr = .ok (.agg (nqC y)) wr := by
            have := hTp.mp.look1 HMN.out cur hc64
            rw [mN_all, hgq] at this
            exact this
          have hfe := field_ents y wr
          have hen := (HM.out.nw hTp.nw).2 y hyl
          have hen1 := hen.en
          have HTC : Hid (TrC w nm nb l vis cur y 0 tb2 c2 m0 wr) := ⟨t0, ord, N, ks, by rw [List.take_zero]; exact hDp, hm0e, by omega, hc63, hTp⟩
          have hgt : decide ((0 : Int) < (m2 : Int)) = true := decide_eq_true (by omega)
          have hgt2 : (0 : Int) < (m2 : Int) := by omega
          have hgn : decide (0 < m2) = true := decide_eq_true hm0
          have hsub : IntKind.i64.wrap ((m2 : Int) - 1) = (m0 : Int) := by rw [IntKind.wrap_i64]; have := HB2.out; omega
          have hlt0 : (m0 : Int) < (m2 : Int) := by omega
          have hlec : (m0 : Int) ≤ (c2 : Int) := by omega
          have hlecn : m0 ≤ c2 := by omega
          have hlt0n : m0 < m2 := by omega
          have HG1 := tHid hg1
          have HYL := tHid hyl
          have HVL : Hid (vis.length < n) := by show vis.length < n; have h5 := hfew.2.1; rw [List.length_append] at h5; simp at h5; omega
          have HE1 := tHid hen1
          have HWY := tHid hwy
          unfold nqC at hlk hfe
          clear HR hD hml hmc hc63 hT hfew hne hmt hm0e hTp hDp hxm hxn hxk hg1 hgq hwy hc64 hen hen1 hyl
          go_wp2_with fail
          clear hlk hfe hcell hgt hgt2 hgn hsub hlt0 hlec hlecn hlt0n hm0
          go_loopg [7, 49] y.e.n (fun kx v i wr3 => ∃ (J tb c m : Nat), J ≤ y.e.n ∧ y.e.n - J ≤ kx ∧ v = .slice (some ⟨tb, 0, none⟩) m c ∧ i = .int .i64 J ∧ Hid (TrC w nm nb l vis cur y J tb c m wr3))
          case atStart => exact ⟨0, tb2, c2, m0, by omega, by omega, rfl, rfl, HTC⟩
          case round =>
            clear HTC
            obtain ⟨J, tb3, c3, m3, hJ, hkx3, rfl, rfl, HR⟩ := hrel
            obtain ⟨todo, ord, N, ks, hD, hml, hmc, hc63, hT⟩ := HR.out
            have hfew := hD.few HB.out
            rw [List.length_map, ← HNN.out] at hfew
            by_cases hlt : J < y.e.n
            · have hJl : J < y.x.ents.length := by rw [← HE1.out.1]; exact hlt
              obtain ⟨g, o, hea, _, hc⟩ := ((HM.out.nw hT.nw).2 y HYL.out).2.at J (y.x.ents[J]) (List.getElem?_eq_getElem hJl)
              have c0 : wr.cell? ⟨g, o + J * 2, none⟩ = some (.string (mk (y.x.ents[J]).1)) := hc 0 _ rfl
              have c1 : wr.cell? ⟨g, o + J * 2 + 1, none⟩ = some (.int .i64 (y.x.ents[J]).2) := hc 1 _ rfl
              obtain ⟨e, he⟩ : ∃ e, y.x.ents[J] = e := ⟨_, rfl⟩
              have hem : e ∈ y.x.ents := by rw [← he]; exact List.getElem_mem hJl
              rw [he] at c0 c1
              have hk64 : I64 e.2 := HWY.out.e64 e hem
              have hsp : y.x.ents = y.x.ents.take J ++ e :: y.x.ents.drop (J + 1) := by
                rw [← he, ← List.drop_eq_getElem_cons hJl, List.take_append_drop]
              have htk : y.x.ents.take (J + 1) = y.x.ents.take J ++ [e] := by rw [List.take_add_one, List.getElem?_eq_getElem hJl, he]; rfl
              obtain ⟨V4, hV4⟩ : ∃ V4, wr.alloc (.cells #[.string (mk e.1), .int .i64 e.2] 109) = V4 := ⟨_, rfl⟩
              have hN4 : Nw wr V4 := by rw [← hV4]; exact (Fr.refl _ _).alloc _
              have q4 : V4.cell? ⟨wr.heap.size, 1, none⟩ = some (.int .i64 e.2) := by rw [← hV4]; exact (rc (nh wr _) 1 _ rfl).1
              have hT4 := hT.more hN4
              have hlk := hT4.mp.look HMN.out e.2 hk64
              rw [mN_all] at hlk
              have hNle : N e.2 ≤ 4096 * 1000000000 + 1 := by
                have h5 := hD.le HB.out HG1.out _ hsp e.2
                have h6 := lks_bound (l := l.map Nq.x) (B := 1000000000) (fun x hx => by
                  obtain ⟨z, hz, rfl⟩ := List.mem_map.1 hx
                  exact (HWW.out z hz).el) e.2
                rw [List.length_map, ← HNN.out] at h6
                have h7 : n * 1000000000 ≤ 4096 * 1000000000 := Nat.mul_le_mul_right _ HB2.out
                omega
              have hwrap : IntKind.i64.wrap ((N e.2 : Int) + 1) = (N e.2 : Int) + 1 := by rw [IntKind.wrap_i64]; omega
              have hlt2 : (J : Int) < (y.e.n : Int) := by omega
              have hltd := decide_eq_true hlt2
              have hltn := decide_eq_true hlt
              have zwj : IntKind.i64.wrap ((J : Int) + 1) = (J : Int) + 1 := by rw [IntKind.wrap_i64]; have := HE1.out.2.1; have := HE1.out.2.2; omega
              have hnbl := hT.mc.lt
              have HMT : Hid (y.x ∈ l.map Nq.x) := List.mem_map.2 ⟨y, HYL.out, rfl⟩
              cases hgq : getq l e.2 with
              | none =>
                have hgn : get (l.map Nq.x) e.2 = none := by rw [getq_get, hgq]; rfl
                have hnt := Dfs.missing HMT.out hem hgn
                rw [hgq] at hlk
                have hlk' : (Instr.lookup 156 (.map (some nm)) (.int .i64 e.2) true).run Tryz.prog V4 = .ok (.tuple #[.agg #[.int .i64 0, .int .i64 0, .int .u32 0, .int .u32 0, .int .u32 0, .int .i64 0, .int .i32 0, .slice none 0 0, .string ⟨#[]⟩, .slice none 0 0], .bool false]) V4 := hlk
                obtain ⟨V5, hV5⟩ : ∃ V5, V4.alloc (.cells #[.int .i64 0, .int .i64 0, .int .u32 0, .int .u32 0, .int .u32 0, .int .i64 0, .int .i32 0, .slice none 0 0, .string ⟨#[]⟩, .slice none 0 0] 58) = V5 := ⟨_, rfl⟩
                have hN5 : Nw V4 V5 := by rw [← hV5]; exact (Fr.refl _ _).alloc _
                have q5 := hN5.cell q4
                have hT5 := hT4.more hN5
                have l5 := hT5.look e.2 hk64
                obtain ⟨W6, b1, b2, b3⟩ := hT5.bump (by have := HB2.out; omega) e.2 hk64
                have HL := tHid (HF.out W6 false b2.nw ⟨fun h => (by cases h), fun h => absurd h hnt⟩)
                have HV4 := tHid hV4
                have HV5 := tHid hV5
                have HEA := tHid hea
                clear hV4 hV5 hN4 hN5 hT hT4 hT5 b2 b3 hlk HR hD hml hmc hc63 hfew hJl hem he hsp htk hgn hnt hc HF HMT hNle hnbl hea hgq
                rw [HEA.out]
                go_upto_region 15 with fail
                rw [HV4.out]
                clear HV4 c0 c1
                go_upto_region 16 with fail
                rw [HV5.out]
                clear HV5
                go_wp2_with fail
                exact HL.out
              | some y2 =>
                have hgn : get (l.map Nq.x) e.2 = some y2.x := by rw [getq_get, hgq]; rfl
                rw [hgq] at hlk
                have hlk' : (Instr.lookup 156 (.map (some nm)) (.int .i64 e.2) true).run Tryz.prog V4 = .ok (.tuple #[.agg (nqC y2), .bool true]) V4 := hlk
                obtain ⟨V5, hV5⟩ : ∃ V5, V4.alloc (.cells (nqC y2) 58) = V5 := ⟨_, rfl⟩
                have hN5 : Nw V4 V5 := by rw [← hV5]; exact (Fr.refl _ _).alloc _
                have q5 := hN5.cell q4
                have p5 : V5.cell? ⟨V4.heap.size, 1, none⟩ = some (.int .i64 y2.x.kind) := by rw [← hV5]; exact (rc (nh V4 _) 1 _ rfl).1
                have hT5 := hT4.more hN5
                have l5 := hT5.look e.2 hk64
                obtain ⟨W6, b1, b2, b3⟩ := hT5.bump (by have := HB2.out; omega) e.2 hk64
                have hs4 := hN4.size
                have q6 := b3.cellv q5 (show ¬ wr.heap.size = nb by omega)
                have p6 := b3.cellv p5 (show ¬ V4.heap.size = nb by omega)
                have l6 := b2.look e.2 hk64
                have hbn : bumpN N e.2 e.2 = N e.2 + 1 := by unfold bumpN; rw [if_pos rfl]
                rw [hbn] at l6
                have hcast : ((N e.2 + 1 : Nat) : Int) = (N e.2 : Int) + 1 := by omega
                rw [hcast] at l6
                have HV4 := tHid hV4
                have HV5 := tHid hV5
                have HEA := tHid hea
                unfold nqC at hlk' HV5
                by_cases hk1 : y2.x.kind = 1
                · by_cases h0 : 0 < N e.2
                  · have hnt := hD.twice HB.out HG1.out hsp hgn hk1 h0
                    have HL := tHid (HF.out W6 false b2.nw ⟨fun h => (by cases h), fun h => absurd h hnt⟩)
                    have hgd : decide ((1 : Int) < (N e.2 : Int) + 1) = true := decide_eq_true (by omega)
                    have hgp : (1 : Int) < (N e.2 : Int) + 1 := by omega
                    have HK1 := tHid hk1
                    clear hk1 hV4 hV5 hN4 hN5 hT hT4 hT5 b2 b3 hlk HR hD hml hmc hc63 hfew hJl hem he hsp htk hgn hnt hc HF HMT hNle hnbl hea hgq hs4 hbn hcast
                    rw [HEA.out]
                    go_upto_region 15 with fail
                    rw [HV4.out]
                    clear HV4 c0 c1
                    go_upto_region 16 with fail
                    rw [HV5.out]
                    clear HV5
                    have hk1 := HK1.out
                    clear HK1
                    go_wp2_with fail
                    exact HL.out
                  · have h00 : N e.2 = 0 := by omega
                    have hDn := hD.ddir HB.out hgn hk1 h00
                    rw [← htk] at hDn
                    rw [if_neg h0] at b2
                    rw [← hml] at b2
                    obtain ⟨tb7, c7, W7, a1, a2, a3, a4⟩ := b2.push (by have := HB2.out; have := hfew.2.1; omega) e.2
                    rw [hml] at a1 a2 a4
                    have HNX : Hid (TrC w nm nb l vis cur y (J + 1) tb7 c7 (m3 + 1) W7) := ⟨_, _, _, _, hDn, by rw [List.length_append, hml]; rfl, a2, a3, by rw [List.length_append]; exact a4⟩
                    have hgd : decide ((1 : Int) < (N e.2 : Int) + 1) = false := decide_eq_false (by omega)
                    have hgp : ¬ (1 : Int) < (N e.2 : Int) + 1 := by omega
                    have HK1 := tHid hk1
                    clear hk1 hV4 hV5 hN4 hN5 hT hT4 hT5 b2 b3 hlk HR hD hml hmc hc63 hfew hJl hem he hsp htk hgn hc HF HMT hNle hnbl hea hgq hs4 hbn hcast hDn h00 h0 a2 a3 a4
                    rw [HEA.out]
                    go_upto_region 15 with fail
                    rw [HV4.out]
                    clear HV4 c0 c1
                    go_upto_region 16 with fail
                    rw [HV5.out]
                    clear HV5
                    have hk1 := HK1.out
                    clear HK1
                    go_wp2_with fail
                    rw [← HEA.out]
                    go_roundg (y.e.n - (J + 1))
                    case measure => omega
                    case rel => exact ⟨J + 1, tb7, c7, m3 + 1, by omega, by omega, rfl, by first | rfl | (congr 1), HNX⟩
                · have hDn := hD.file HB.out hgn hk1
                  rw [← htk] at hDn
                  have HNX : Hid (TrC w nm nb l vis cur y (J + 1) tb3 c3 m3 W6) := by
                    refine ⟨_, _, _, _, hDn, hml, hmc, hc63, ?_⟩
                    by_cases h0 : 0 < N e.2
                    · rw [if_pos h0] at b2 ⊢; exact b2
                    · rw [if_neg h0] at b2 ⊢
                      rw [List.length_append]; exact b2
                  have hkd := decide_eq_false hk1
                  clear hV4 hV5 hN4 hN5 hT hT4 hT5 b2 b3 hlk HR hD hml hmc hc63 hfew hJl hem he hsp htk hgn hc HF HMT hNle hnbl hea hgq hs4 hbn hcast hDn
                  rw [HEA.out]
                  go_upto_region 15 with fail
                  rw [HV4.out]
                  clear HV4 c0 c1
                  go_upto_region 16 with fail
                  rw [HV5.out]
                  clear HV5
                  go_wp2_with fail
                  rw [← HEA.out]
                  go_roundg (y.e.n - (J + 1))
                  case measure => omega
                  case rel => exact ⟨J + 1, tb3, c3, m3, by omega, by omega, rfl, by first | rfl | (congr 1), HNX⟩
            · have hJe : J = y.e.n := by omega
              have hlt2 : ¬ (J : Int) < (y.e.n : Int) := by omega
              have hltd := decide_eq_false hlt2
              have hltn := decide_eq_false hlt
              rw [hJe, HE1.out.1, List.take_length] at hD
              have hDn := Dfs.next HG1.out HB.out hD
              have HNX : Hid (TrB w nm nb l (vis ++ [cur]) tb3 c3 m3 wr) := ⟨todo, ord, N, ks, hDn, hml, hmc, hc63, hT⟩
              clear HR hD hDn hml hmc hc63 hT hfew hJe HF HMN
              go_wp2_with fail
              have hvl := HVL.out
              go_roundg (n - (vis.length + 1))
              case measure => omega
              case rel => exact ⟨vis ++ [cur], tb3, c3, m3, by rw [List.length_append]; simp, rfl, HNX⟩
        · have hm00 : m2 = 0 := by omega
          subst hm00
          have ht0 : todo = [] := List.eq_nil_of_length_eq_zero hml
          subst ht0
          have hdone := hD.done HB.out
          rw [List.length_map, ← HNN.out] at hdone
          have hlen : ∀ ty, (Builtin.len_ #[157] ty #[.map (some nb)]).run Tryz.prog wr = .ok (.int .i64 ks.length) wr := hT.mc.len mcOk
          have HL := tHid (HF.out wr (decide ((ks.length : Int) = (n : Int))) hT.nw (by rw [← hdone, decide_eq_true_eq]; omega))
          clear HR hD hml hmc hc63 hT hfew hdone HF HMN
          generalize ks.length = kl at *
          go_wp2_with fail
          exact HL.out
end
end Go.Proofs.YtcogkhcfpgelhaaGreat

namespace Go.Proofs.YtcogkhcfpgelhaaGreat
open Go.RowKit
set_option linter.unusedVariables false
set_option linter.unusedSimpArgs false
set_option maxRecDepth 100000
variable {w w' W : World} {X : Nat → Prop}
set_option maxHeartbeats 16000000 in
theorem bounds_all (nodes bytes next : Int) (a : Option Addr) (n c : Nat) (w : World) : Calls Tryz.prog 70 #[.agg #[.int .i64 nodes, .int .i64 bytes, .int .i64 next, .slice a n c]] w fun e w' => e = .returned (.bool (decide (1 ≤ nodes) && decide (nodes ≤ 4096) && decide (0 ≤ bytes) && decide (bytes ≤ 4194304) && decide (1 < next) && decide (next ≤ 1099511627776) && decide ((1 : Int) ≤ (n : Int)) && decide ((n : Int) ≤ nodes))) ∧ Nw w w' := by
  obtain ⟨P, hP⟩ : ∃ P : Ending → World → Prop, P = fun e w' => e = .returned (.bool (decide (1 ≤ nodes) && decide (nodes ≤ 4096) && decide (0 ≤ bytes) && decide (bytes ≤ 4194304) && decide (1 < next) && decide (next ≤ 1099511627776) && decide ((1 : Int) ≤ (n : Int)) && decide ((n : Int) ≤ nodes))) ∧ Nw w w' := ⟨_, rfl⟩
  rw [← hP]
  have HF : Hid (∀ V, Nw w V → P (.returned (.bool (decide (1 ≤ nodes) && decide (nodes ≤ 4096) && decide (0 ≤ bytes) && decide (bytes ≤ 4194304) && decide (1 < next) && decide (next ≤ 1099511627776) && decide ((1 : Int) ≤ (n : Int)) && decide ((n : Int) ≤ nodes)))) V) := fun V hV => by rw [hP]; exact ⟨rfl, hV⟩
  clear hP
  by_cases h1 : 1 ≤ nodes
  rotate_left
  · skip
    have d1 := decide_eq_false h1
    rw [decide_eq_false h1] at HF
    simp only [Bool.and_false, Bool.false_and, Bool.and_self] at HF
    go_enter Tryz.func70, Tryz.ntmps70
    go_wp2_with fail
    exact HF.out _ ((Fr.refl _ _).alloc _)
  by_cases h2 : nodes ≤ 4096
  rotate_left
  · skip
    have d1 := decide_eq_true h1
    have d2 := decide_eq_false h2
    rw [decide_eq_true h1, decide_eq_false h2] at HF
    simp only [Bool.and_false, Bool.false_and, Bool.and_self] at HF
    go_enter Tryz.func70, Tryz.ntmps70
    go_wp2_with fail
    exact HF.out _ ((Fr.refl _ _).alloc _)
  by_cases h3 : 0 ≤ bytes
  rotate_left
  · skip
    have d1 := decide_eq_true h1
    have d2 := decide_eq_true h2
    have d3 := decide_eq_false h3
    rw [decide_eq_true h1, decide_eq_true h2, decide_eq_false h3] at HF
    simp only [Bool.and_false, Bool.false_and, Bool.and_self] at HF
    go_enter Tryz.func70, Tryz.ntmps70
    go_wp2_with fail
    exact HF.out _ ((Fr.refl _ _).alloc _)
  by_cases h4 : bytes ≤ 4194304
  rotate_left
  · skip
    have d1 := decide_eq_true h1
    have d2 := decide_eq_true h2
    have d3 := decide_eq_true h3
    have d4 := decide_eq_false h4
    rw [decide_eq_true h1, decide_eq_true h2, decide_eq_true h3, decide_eq_false h4] at HF
    simp only [Bool.and_false, Bool.false_and, Bool.and_self] at HF
    go_enter Tryz.func70, Tryz.ntmps70
    go_wp2_with fail
    exact HF.out _ ((Fr.refl _ _).alloc _)
  by_cases h5 : 1 < next
  rotate_left
  · skip
    have d1 := decide_eq_true h1
    have d2 := decide_eq_true h2
    have d3 := decide_eq_true h3
    have d4 := decide_eq_true h4
    have d5 := decide_eq_false h5
    rw [decide_eq_true h1, decide_eq_true h2, decide_eq_true h3, decide_eq_true h4, decide_eq_false h5] at HF
    simp only [Bool.and_false, Bool.false_and, Bool.and_self] at HF
    go_enter Tryz.func70, Tryz.ntmps70
    go_wp2_with fail
    exact HF.out _ ((Fr.refl _ _).alloc _)
  by_cases h6 : next ≤ 1099511627776
  rotate_left
  · skip
    have d1 := decide_eq_true h1
    have d2 := decide_eq_true h2
    have d3 := decide_eq_true h3
    have d4 := decide_eq_true h4
    have d5 := decide_eq_true h5
    have d6 := decide_eq_false h6
    rw [decide_eq_true h1, decide_eq_true h2, decide_eq_true h3, decide_eq_true h4, decide_eq_true h5, decide_eq_false h6] at HF
    simp only [Bool.and_false, Bool.false_and, Bool.and_self] at HF
    go_enter Tryz.func70, Tryz.ntmps70
    go_wp2_with fail
    exact HF.out _ ((Fr.refl _ _).alloc _)
  by_cases h7 : (1 : Int) ≤ (n : Int)
  rotate_left
  · skip
    have d1 := decide_eq_true h1
    have d2 := decide_eq_true h2
    have d3 := decide_eq_true h3
    have d4 := decide_eq_true h4
    have d5 := decide_eq_true h5
    have d6 := decide_eq_true h6
    have d7 := decide_eq_false h7
    rw [decide_eq_true h1, decide_eq_true h2, decide_eq_true h3, decide_eq_true h4, decide_eq_true h5, decide_eq_true h6, decide_eq_false h7] at HF
    simp only [Bool.and_false, Bool.false_and, Bool.and_self] at HF
    go_enter Tryz.func70, Tryz.ntmps70
    go_wp2_with fail
    exact HF.out _ ((Fr.refl _ _).alloc _)
  by_cases h8 : (n : Int) ≤ nodes
  rotate_left
  · skip
    have d1 := decide_eq_true h1
    have d2 := decide_eq_true h2
    have d3 := decide_eq_true h3
    have d4 := decide_eq_true h4
    have d5 := decide_eq_true h5
    have d6 := decide_eq_true h6
    have d7 := decide_eq_true h7
    have d8 := decide_eq_false h8
    rw [decide_eq_true h1, decide_eq_true h2, decide_eq_true h3, decide_eq_true h4, decide_eq_true h5, decide_eq_true h6, decide_eq_true h7, decide_eq_false h8] at HF
    simp only [Bool.and_false, Bool.false_and, Bool.and_self] at HF
    go_enter Tryz.func70, Tryz.ntmps70
    go_wp2_with fail
    exact HF.out _ ((Fr.refl _ _).alloc _)
  have d1 := decide_eq_true h1
  have d2 := decide_eq_true h2
  have d3 := decide_eq_true h3
  have d4 := decide_eq_true h4
  have d5 := decide_eq_true h5
  have d6 := decide_eq_true h6
  have d7 := decide_eq_true h7
  have d8 := decide_eq_true h8
  rw [decide_eq_true h1, decide_eq_true h2, decide_eq_true h3, decide_eq_true h4, decide_eq_true h5, decide_eq_true h6, decide_eq_true h7, decide_eq_true h8] at HF
  simp only [Bool.and_self] at HF
  go_enter Tryz.func70, Tryz.ntmps70
  go_wp2_with fail
  exact HF.out _ ((Fr.refl _ _).alloc _)
theorem bounds_any (X : Im) (a : Option Addr) (n c : Nat) (hn : n = X.l.length) (w : World) : Calls Tryz.prog 70 #[imV X (.slice a n c)] w fun e w' => e = .returned (.bool (bndB X)) ∧ Nw w w' := by
  refine Calls.mono (bounds_all X.nodes X.bytes X.next a n c w) ?_
  rintro e w' ⟨rfl, hN⟩
  refine ⟨?_, hN⟩
  have e7 : decide ((1 : Int) ≤ (n : Int)) = decide (1 ≤ X.l.length) := by rw [← hn]; congr 1; exact propext ⟨fun h => by omega, fun h => by omega⟩
  unfold bndB
  rw [e7, hn]
set_option maxHeartbeats 8000000 in
theorem valid_any (X : Im) (l : List Nq) (a : Option Addr) (n c : Nat) (hl : l.map Nq.x = X.l) (hn : n = l.length) (hm : ImR (.slice a n c) l w) (hw : ∀ y ∈ l, NdW y.x) :
    Calls Tryz.prog 21 #[imV X (.slice a n c)] w fun e w' => ∃ B, e = .returned (.bool B) ∧ (B = true ↔ WF X) ∧ Nw w w' := by
  obtain ⟨P, hP⟩ : ∃ P : Ending → World → Prop, P = fun e w' => ∃ B, e = .returned (.bool B) ∧ (B = true ↔ WF X) ∧ Nw w w' := ⟨_, rfl⟩
  rw [← hP]
  have HF : Hid (∀ V B, Nw w V → (B = true ↔ WF X) → P (.returned (.bool B)) V) := fun V B hV hB => by rw [hP]; exact ⟨B, rfl, hB, hV⟩
  clear hP
  obtain ⟨V, hV⟩ : ∃ V, w.alloc (.cells #[.int .i64 X.nodes, .int .i64 X.bytes, .int .i64 X.next, .slice a n c] 37) = V := ⟨_, rfl⟩
  have hN : Nw w V := by rw [← hV]; exact (Fr.refl _ _).alloc _
  have HI : Hid (∀ W, Nw V W → W.cell? ⟨w.heap.size, 0, none⟩ = some (.int .i64 X.nodes) ∧ W.cell? ⟨w.heap.size, 1, none⟩ = some (.int .i64 X.bytes) ∧ W.cell? ⟨w.heap.size, 2, none⟩ = some (.int .i64 X.next) ∧ W.cell? ⟨w.heap.size, 3, none⟩ = some (.slice a n c)) := fun W hW => ⟨hW.cell (by rw [← hV]; exact (rc (nh w _) 0 _ rfl).1), hW.cell (by rw [← hV]; exact (rc (nh w _) 1 _ rfl).1), hW.cell (by rw [← hV]; exact (rc (nh w _) 2 _ rfl).1), hW.cell (by rw [← hV]; exact (rc (nh w _) 3 _ rfl).1)⟩
  have hlen : n = X.l.length := by rw [← hl, List.length_map, hn]
  have HB : Hid (Calls Tryz.prog 70 #[.agg #[.int .i64 X.nodes, .int .i64 X.bytes, .int .i64 X.next, .slice a n c]] V fun e w' => e = .returned (.bool (bndB X)) ∧ Hid (Nw V w')) := bounds_any X a n c hlen V
  have HVI := valid_iff X
  have HV := tHid hV
  have HNW := tHid hN
  have hmV := hm.nw hN
  clear hV hN hm
  obtain ⟨i0, i1, i2, i3⟩ := HI.out V (Fr.refl _ _)
  rcases Bool.eq_false_or_eq_true (bndB X) with hb | hb
  · have hb12 : 1 ≤ n ∧ n ≤ 4096 := by
      have h := hb
      unfold bndB at h
      simp only [Bool.and_eq_true, decide_eq_true_eq] at h
      rw [hlen]; omega
    have HIN : Hid (∀ W, Hid (Nw V W) → Calls Tryz.prog 71 #[.agg #[.int .i64 X.nodes, .int .i64 X.bytes, .int .i64 X.next, .slice a n c]] W fun e w' => e = .returned (.bool (inodB X)) ∧ Hid (Nw V w')) := fun W hW => Calls.mono (inodes_any X l a n c hl hn hb12.1 hb12.2 (hmV.nw hW.out) hw) (fun e w' h => ⟨h.1, hW.out.trans h.2⟩)
    rcases Bool.eq_false_or_eq_true (inodB X) with hi | hi
    · have hbas : Bas (l.map Nq.x) := by
        have h := hi
        unfold inodB at h
        simp only [Bool.and_eq_true, decide_eq_true_eq] at h
        rw [hl]; exact bas_of h.1.1 h.1.2
      have HT : Hid (∀ W, Hid (Nw V W) → Calls Tryz.prog 72 #[.slice a n c] W fun e w' => ∃ B, e = .returned (.bool B) ∧ Hid ((B = true ↔ WF X) ∧ Nw V w')) := fun W hW => Calls.mono (tree_any l a n c hn hb12.1 hb12.2 hbas (hmV.nw hW.out) hw) (fun e w' h => by
        obtain ⟨B, rfl, h2, h3⟩ := h
        refine ⟨B, rfl, ?_, hW.out.trans h3⟩
        rw [h2, hl, ← HVI]
        exact ⟨fun h => ⟨hb, hi, h⟩, fun h => h.2.2⟩)
      rw [hi] at HIN
      rw [hb] at HB
      clear hb hi hb12 hbas HVI hl hn hw hlen hmV
      have HB1 : Hid (Calls Tryz.prog 70 #[.agg #[.int .i64 X.nodes, .int .i64 X.bytes, .int .i64 X.next, .slice a n c]] V fun e w' => e = .returned (.bool true) ∧ Hid (Nw V w') ∧ w'.cell? ⟨w.heap.size, 0, none⟩ = some (.int .i64 X.nodes) ∧ w'.cell? ⟨w.heap.size, 1, none⟩ = some (.int .i64 X.bytes) ∧ w'.cell? ⟨w.heap.size, 2, none⟩ = some (.int .i64 X.next) ∧ w'.cell? ⟨w.heap.size, 3, none⟩ = some (.slice a n c)) := HB.out.mono (fun e w' hh => ⟨hh.1, hh.2, HI.out w' hh.2.out⟩)
      have HIN1 : Hid (∀ W, Hid (Nw V W) → Calls Tryz.prog 71 #[.agg #[.int .i64 X.nodes, .int .i64 X.bytes, .int .i64 X.next, .slice a n c]] W fun e w' => e = .returned (.bool true) ∧ Hid (Nw V w') ∧ w'.cell? ⟨w.heap.size, 3, none⟩ = some (.slice a n c)) := fun W hW => (HIN.out W hW).mono (fun e w' hh => ⟨hh.1, hh.2, (HI.out w' hh.2.out).2.2.2⟩)
      clear HB HIN HI
      go_enter Tryz.func21, Tryz.ntmps21
      go_upto_region 1 with fail
      rw [HV.out]
      clear HV
      go_wp2_with (first | (go_at_call 70; with_reducible refine HB1.out.mono ?_; rintro e w2 ⟨rfl, H2, j0, j1, j2, j3⟩) | (go_at_call 71; with_reducible refine (HIN1.out _ H2).mono ?_; rintro e w3 ⟨rfl, H3, k3⟩) | (go_at_call 72; with_reducible refine (HT.out _ H3).mono ?_; rintro e w4 ⟨B, rfl, H4⟩))
      exact HF.out _ _ (HNW.out.trans H4.out.2) H4.out.1
    · rw [hi] at HIN
      rw [hb] at HB
      have HL : Hid (∀ W, Hid (Nw V W) → P (.returned (.bool false)) W) := fun W hW => HF.out W false (HNW.out.trans hW.out) ⟨fun h => (by cases h), fun h => by have := (HVI.2 h).2.1; rw [hi] at this; cases this⟩
      clear hb hi hb12 HVI hl hn hw hlen hmV HF
      have HB1 : Hid (Calls Tryz.prog 70 #[.agg #[.int .i64 X.nodes, .int .i64 X.bytes, .int .i64 X.next, .slice a n c]] V fun e w' => e = .returned (.bool true) ∧ Hid (Nw V w') ∧ w'.cell? ⟨w.heap.size, 0, none⟩ = some (.int .i64 X.nodes) ∧ w'.cell? ⟨w.heap.size, 1, none⟩ = some (.int .i64 X.bytes) ∧ w'.cell? ⟨w.heap.size, 2, none⟩ = some (.int .i64 X.next) ∧ w'.cell? ⟨w.heap.size, 3, none⟩ = some (.slice a n c)) := HB.out.mono (fun e w' hh => ⟨hh.1, hh.2, HI.out w' hh.2.out⟩)
      clear HB HI
      go_enter Tryz.func21, Tryz.ntmps21
      go_upto_region 1 with fail
      rw [HV.out]
      clear HV
      go_wp2_with (first | (go_at_call 70; with_reducible refine HB1.out.mono ?_; rintro e w2 ⟨rfl, H2, j0, j1, j2, j3⟩) | (go_at_call 71; with_reducible refine (HIN.out _ H2).mono ?_; rintro e w3 ⟨rfl, H3⟩))
      exact HL.out _ H3
  · rw [hb] at HB
    have HL : Hid (∀ W, Hid (Nw V W) → P (.returned (.bool false)) W) := fun W hW => HF.out W false (HNW.out.trans hW.out) ⟨fun h => (by cases h), fun h => by have := (HVI.2 h).1; rw [hb] at this; cases this⟩
    clear hb HVI hl hn hw hlen hmV HF HI
    go_enter Tryz.func21, Tryz.ntmps21
    go_upto_region 1 with fail
    rw [HV.out]
    clear HV
    go_wp2_with (first | (go_at_call 70; with_reducible refine HB.out.mono ?_; rintro e w2 ⟨rfl, H2⟩))
    exact HL.out _ H2
end Go.Proofs.YtcogkhcfpgelhaaGreat
