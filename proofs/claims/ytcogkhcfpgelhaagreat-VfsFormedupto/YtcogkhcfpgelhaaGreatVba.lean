import Derived.Test.YtcogkhcfpgelhaaGreatVay
import Derived.Test.YtcogkhcfpgelhaaGreatVaz
namespace Go.Proofs.YtcogkhcfpgelhaaGreat
open Go.RowKit
set_option linter.unusedVariables false
set_option maxRecDepth 100000
variable {w w' W V : World} {X : Im}
/-- How build's first loop stands behind I inodes (and maybe one more whose bytes are not counted yet). -/
def BA (V : World) (X : Im) (fb mb : Nat) (H I : Nat) (wr : World) : Prop := Nw V wr ∧ ∃ L, FsG (fun _ => false) fb mb L ⟨X.nodes, X.bytes, H, X.next⟩ (q1 X.l I) I wr ∧ ∀ k, BkG (fun _ => false) fb mb L (q1 X.l I) k → V.heap.size ≤ k
theorem ba_step {fb mb H I : Nat} {wr w5 : World} {y : Nq} (hB : BA V X fb mb H I wr) (hs : Srt X.l) (hI : I ≤ 4096) (hx : X.l[I]? = some y.x) (h64 : I64 y.x.num) {a5 : Option Addr} {n5 c5 : Nat} {od : Option Nat} (f : Nw (wr.alloc (.cells (nqC y) 58)) w5) (hO : OgB od (.slice a5 n5 c5) y.x.data w5) (hod : ∀ g, od = some g → wr.heap.size < g) :
    ∃ W, (Instr.mapUpdate 98 (.map (some mb)) (.int .i64 y.x.num) (.pointer (some ⟨w5.heap.size, 0, none⟩))).run Tryz.prog (w5.alloc (.cells #[.int .i64 y.x.kind, .int .u32 y.x.mt.mode, .int .u32 y.x.mt.uid, .int .u32 y.x.mt.gid, .int .i64 y.x.mt.time, .int .i32 y.x.mt.nano, .slice a5 n5 c5, .string (mk y.x.tgt), .map none, .int .i64 0, .int .i64 0] 104)) = .ok () W ∧ BA V X fb mb H (I + 1) W ∧ W.heap[wr.heap.size]? = some (.cells (nqC y) 58) := by
  obtain ⟨h1, L, h2, h3⟩ := hB
  have hN3 : Nw wr (wr.alloc (.cells (nqC y) 58)) := (Fr.refl _ _).alloc _
  have hNW := hN3.trans f
  have hN6 : Nw w5 (w5.alloc (.cells (ndC (frP y.x) (.slice a5 n5 c5) (.map none)) 104)) := (Fr.refl _ _).alloc _
  obtain ⟨e1, e2⟩ := q1_step hs hx
  have hs5 := hNW.size
  obtain ⟨W, r1, r2, r3⟩ := ((h2.nw hNW).nw hN6).more (by omega) h64 e2 rfl (p := frP y.x) (ib := w5.heap.size) (od := od) (fun k hk e => by have := (h2.nw hNW).lt k hk; omega) (fun g hg k hk e => by have := h2.lt k hk; have := hod g hg; omega) (nh w5 _) (hO.nw hN6) ⟨rfl, fun _ => rfl⟩
  have hmb : V.heap.size ≤ mb := h3 mb (.inr (.inl rfl))
  have hnode := f.heap (nh wr (.cells (nqC y) 58))
  rw [← e1] at r2
  refine ⟨W, r1, ⟨((h1.trans hNW).trans hN6).then r3 (fun i hi => .inr (by omega)), _, r2, fun k hk => ?_⟩, r3.heap (hN6.heap hnode) (fun e => ?_)⟩
  · have hsV := h1.size
    rcases hk with rfl | rfl | ⟨n, p, hp, hk⟩
    · exact h3 k (.inl rfl)
    · exact hmb
    · rw [e1] at hp
      by_cases hn : n = y.x.num
      · simp only [if_pos hn] at hk
        rcases hk with rfl | ⟨hk, _⟩ | hk
        · have := (h1.trans hNW).size; omega
        · cases hk
        · have := hod k hk; omega
      · simp only [if_neg hn] at hp hk
        exact h3 k (.inr (.inr ⟨n, p, hp, hk⟩))
  · have := h2.mp.lt; omega
theorem ba_held {fb mb H I H2 : Nat} (hB : BA V X fb mb H I W) : BA V X fb mb H2 I (W.drew.setCell ⟨fb, 3, none⟩ (.int .i64 H2)) ∧ W.cell? ⟨fb, 3, none⟩ = some (.int .i64 H) ∧ W.frozen? ⟨fb, 3, none⟩ = false ∧ W.cell? ⟨fb, 0, none⟩ = some (.map (some mb)) := by
  obtain ⟨h1, L, h2, h3⟩ := hB
  have f6 : Fr (fun k => k = fb) W (W.drew.setCell ⟨fb, 3, none⟩ (.int .i64 H2)) := ((Fr.refl (fun k => k = fb) W).drew).setCell ⟨fb, 3, none⟩ _ (.inl rfl)
  have hfb := h3 fb (.inl rfl)
  refine ⟨⟨h1.then f6 (fun i hi => .inr (by omega)), L, h2.head f6 ?_, h3⟩, (rc h2.blk 3 _ rfl).1, (rc h2.blk 3 (.int .i64 H) rfl).2, (rc h2.blk 0 _ rfl).1⟩
  have := rset (w := W.drew) h2.blk 3 (.int .i64 H2)
  rw [this]; rfl
/-- How build's second loop stands. -/
def BB (V : World) (X : Im) (fb mb I : Nat) (wr : World) : Prop := Nw V wr ∧ ∃ L, FsG (mdF X.l I) fb mb L (hOf X) (qB (cI X.l I) (decide (0 < I))) X.l.length wr ∧ ∀ k, BkG (mdF X.l I) fb mb L (qB (cI X.l I) (decide (0 < I))) k → V.heap.size ≤ k
/-- And within an inode. -/
def BC (V : World) (X : Im) (fb mb I : Nat) (y : Nq) (J nb : Nat) (wr : World) : Prop := Nw V wr ∧ wr.heap[nb]? = some (.cells (nqC y) 58) ∧ ∃ L, FsG (mdF X.l (I + 1)) fb mb L (hOf X) (qB (inn X.l I y.x J) (decide (0 < I))) X.l.length wr ∧ ∀ k, BkG (mdF X.l (I + 1)) fb mb L (qB (inn X.l I y.x J) (decide (0 < I))) k → V.heap.size ≤ k
theorem ba_bb {fb mb I : Nat} (hB : BA V X fb mb (heldF X.l) I W) (hI : I = X.l.length) : BB V X fb mb 0 W := by
  obtain ⟨h1, L, h2, h3⟩ := hB
  subst hI
  have e : q1 X.l X.l.length = qB (cI X.l 0) (decide (0 < 0)) := by rw [qB_start]; rfl
  have e2 : (fun _ => false) = mdF X.l 0 := by funext k; rfl
  rw [e, e2] at h2 h3
  exact ⟨h1, L, h2, h3⟩
/-- A file's inode, or a link's: it has no map. -/
theorem bb_file {fb mb I : Nat} {wr : World} {y : Nq} (hB : BB V X fb mb I wr) (hx : X.l[I]? = some y.x) (hk : y.x.kind ≠ 1) : BC V X fb mb I y 0 wr.heap.size (wr.alloc (.cells (nqC y) 58)) := by
  obtain ⟨h1, L, h2, h3⟩ := hB
  have hN : Nw wr (wr.alloc (.cells (nqC y) 58)) := (Fr.refl _ _).alloc _
  have e := (mdF_step hx).2 hk
  rw [inn_zero hx] at h2 h3
  refine ⟨h1.trans hN, nh wr _, L, ?_, ?_⟩
  · rw [e]; exact h2.nw hN
  · rw [e]; exact h3
/-- A directory's: it gets its map. -/
theorem bb_dir {fb mb I : Nat} {wr U : World} {y : Nq} (hB : BB V X fb mb I wr) (hs : Srt X.l) (hx : X.l[I]? = some y.x) (hk : y.x.kind = 1) (h64 : I64 y.x.num) (hU : U = wr.alloc (.cells (nqC y) 58)) :
    ∃ ib, (∀ W, Nw U W → (Instr.lookup 98 (.map (some mb)) (.int .i64 y.x.num) false).run Tryz.prog W = .ok (.pointer (some ⟨ib, 0, none⟩)) W ∧ W.cell? ⟨fb, 0, none⟩ = some (.map (some mb))) ∧ ib < wr.heap.size ∧ fb < wr.heap.size ∧
      (∃ u, U.cell? ⟨ib, 8, none⟩ = some u) ∧ U.frozen? ⟨ib, 8, none⟩ = false ∧ BC V X fb mb I y 0 wr.heap.size ((U.alloc (.map #[] 0)).drew.setCell ⟨ib, 8, none⟩ (.map (some U.heap.size))) ∧ (Instr.lookup 98 (.map (some mb)) (.int .i64 y.x.num) false).run Tryz.prog ((U.alloc (.map #[] 0)).drew.setCell ⟨ib, 8, none⟩ (.map (some U.heap.size))) = .ok (.pointer (some ⟨ib, 0, none⟩)) ((U.alloc (.map #[] 0)).drew.setCell ⟨ib, 8, none⟩ (.map (some U.heap.size))) ∧ ((U.alloc (.map #[] 0)).drew.setCell ⟨ib, 8, none⟩ (.map (some U.heap.size))).cell? ⟨fb, 0, none⟩ = some (.map (some mb)) := by
  obtain ⟨h1, L, h2, h3⟩ := hB
  have hN : Nw wr U := by rw [hU]; exact (Fr.refl _ _).alloc _
  have e := (mdF_step hx).1 hk
  rw [inn_zero hx] at h2 h3
  have hg := get_inn hs hx 0
  have hq : qB (inn X.l I y.x 0) (decide (0 < I)) y.x.num = some (pB (inn X.l I y.x 0) (decide (0 < I)) { y.x with ents := y.x.ents.take 0 }) := qB_get hg
  have hmd := mdF_self hs hx
  have hH := h2.nw hN
  obtain ⟨dv, ev, k1, k2, k3, k4⟩ := (hH.nd _ _ hq).blk
  obtain ⟨k4a, k4b, k4c⟩ := k4 hmd
  subst k4a
  have hib : (L y.x.num).ib < wr.heap.size := h2.lt _ (.inr (.inr ⟨_, _, hq, .inl rfl⟩))
  have hsz := hN.size
  have hN2 : Nw U (U.alloc (.map #[] 0)).drew := ((Fr.refl _ _).alloc _).drew
  have f5 : Fr (fun k => k = (L y.x.num).ib) U ((U.alloc (.map #[] 0)).drew.setCell ⟨(L y.x.num).ib, 8, none⟩ (.map (some U.heap.size))) := (hN2.any).setCell ⟨(L y.x.num).ib, 8, none⟩ _ (.inl rfl)
  have f6 : Fr (fun k => k = (L y.x.num).ib) (U.alloc (.map #[] 0)).drew ((U.alloc (.map #[] 0)).drew.setCell ⟨(L y.x.num).ib, 8, none⟩ (.map (some U.heap.size))) := (Fr.refl (fun k => k = (L y.x.num).ib) _).setCell ⟨(L y.x.num).ib, 8, none⟩ _ (.inl rfl)
  have hT := hH.turn hq (p' := pB (inn X.l I y.x 0) (decide (0 < I)) { y.x with ents := y.x.ents.take 0 }) (b' := true) (eb' := U.heap.size) (.inr (Nat.le_refl _)) f5 (fun k e => .inl e) (by
    refine ⟨dv, .map (some U.heap.size), ?_, ?_, fun _ => ⟨rfl, ?_⟩, fun h => by cases h⟩
    · have := rset (hN2.heap k1) 8 (.map (some U.heap.size))
      rw [this]; rfl
    · refine k2.kept f5 (fun g hg e => ?_)
      rw [hg] at k2
      have := k2.tg
      rw [e, tg_cells k1] at this
      exact absurd this (by decide)
    · refine (((Mp.made U).nw ((Fr.refl _ _).drew)).kept f6 (by omega)).cong (fun s _ => rfl))
  have hqe : (fun k => if k = y.x.num then some (pB (inn X.l I y.x 0) (decide (0 < I)) { y.x with ents := y.x.ents.take 0 }) else qB (inn X.l I y.x 0) (decide (0 < I)) k) = qB (inn X.l I y.x 0) (decide (0 < I)) := by
    funext k
    by_cases hk2 : k = y.x.num
    · rw [if_pos hk2, hk2, hq]
    · rw [if_neg hk2]
  rw [hqe, ← e] at hT
  have hnode : U.heap[wr.heap.size]? = some (.cells (nqC y) 58) := by rw [hU]; exact nh wr _
  refine ⟨(L y.x.num).ib, fun W hW => ⟨(hH.nw hW).look h64 hq, (rc (hH.nw hW).blk 0 _ rfl).1⟩, hib, h2.lt _ (.inl rfl), ⟨_, (rc k1 8 _ rfl).1⟩, (rc k1 8 (.map none) rfl).2, ⟨(h1.trans hN).then f5 (fun i hi => .inr (by have := h3 _ (.inr (.inr ⟨_, _, hq, .inl rfl⟩)); omega)), f5.heap hnode (by omega), _, hT, fun k hk => ?_⟩, ?_, (rc hT.blk 0 _ rfl).1⟩
  · have hsV := h1.size
    rcases hk with rfl | rfl | ⟨n, p, hp, hk⟩
    · exact h3 k (.inl rfl)
    · exact h3 k (.inr (.inl rfl))
    · by_cases hn : n = y.x.num
      · simp only [if_pos hn] at hk
        rcases hk with rfl | ⟨_, rfl⟩ | hk
        · exact h3 _ (.inr (.inr ⟨_, _, hq, .inl rfl⟩))
        · omega
        · exact h3 _ (.inr (.inr ⟨_, _, hq, .inr (.inr hk)⟩))
      · simp only [if_neg hn] at hk
        rw [e] at hk
        simp only [if_neg hn] at hk
        exact h3 k (.inr (.inr ⟨n, p, hp, hk⟩))
  · have := hT.look h64 hq
    simp only [if_pos] at this
    exact this
/-- One more entry. -/
theorem bc_step {fb mb I J nb : Nat} {wr U : World} {y : Nq} {e : Tx × Int} (hB : BC V X fb mb I y J nb wr) (hX : WF X) (hx : X.l[I]? = some y.x) (he : y.x.ents[J]? = some e) (hw : NdW y.x) (hel : ∀ x ∈ X.l, x.ents.length ≤ 1000000000 ∧ I64 x.num) (hU : Nw wr U) :
    Calls Tryz.prog 100 #[.pointer (some ⟨fb, 0, none⟩), .agg #[.int .i64 y.x.num, .string (mk e.1)], .int .i64 e.2] U fun r w' => (∃ v, r = .returned v) ∧ BC V X fb mb I y (J + 1) nb w' := by
  obtain ⟨h1, hnode, L, h2, h3⟩ := hB
  have hs := hX.srt
  have hJ := (List.getElem?_eq_some_iff.1 he).1
  have hem : e ∈ y.x.ents := List.mem_of_getElem? he
  have hxm : y.x ∈ X.l := List.mem_of_getElem? hx
  have hkd : y.x.kind = 1 := by
    by_cases hkd : y.x.kind = 1
    · exact hkd
    · rw [(hX.kinds _ hxm).noents hkd] at hem; cases hem
  obtain ⟨hnm, hne1, z, hz, hzn⟩ := hX.es _ hxm e hem
  have hgx := hX.get hxm
  have hent : entL y.x.ents e.1 = some e.2 := entL_mem (hX.esrt _ hxm) hem
  have hdk : y.x.num ≠ e.2 := wf_noself hX hgx hent
  have hss := srt_inn hs hx J
  have hgd := get_inn hs hx J
  have hgz := hX.get hz
  rw [hzn] at hgz
  have hgk := inn_get hx J e.2
  rw [hgz] at hgk
  obtain ⟨xk, hxk, hxkk⟩ : ∃ xk, get (inn X.l I y.x J) e.2 = some xk ∧ xk.kind = z.kind := by
    cases hg : get (inn X.l I y.x J) e.2 with
    | none => rw [hg] at hgk; cases hgk
    | some xk =>
      rw [hg] at hgk
      simp only [Option.map_some, Option.some.injEq, Prod.mk.injEq] at hgk
      exact ⟨xk, rfl, hgk.2⟩
  have hfree : entL (y.x.ents.take J) e.1 = none := by
    rw [entL_none]
    intro f hf ef
    obtain ⟨j, hj, hfj⟩ := List.getElem_of_mem hf
    rw [List.length_take] at hj
    rw [List.getElem_take] at hfj
    have := List.pairwise_iff_getElem.1 (hX.esrt _ hxm) j J (by omega) hJ (by omega)
    obtain ⟨_, hyJ⟩ := List.getElem?_eq_some_iff.1 he
    rw [hfj, hyJ, ef, lt_irrefl] at this
    cases this
  have hlk := lkS_inn hx he e.2
  rw [if_pos rfl] at hlk
  have h0 : xk.kind = 1 → lkS (inn X.l I y.x J) e.2 = 0 := fun hk1 => by
    have := hX.lkd z hz (by rw [← hxkk]; exact hk1)
    rw [hzn] at this
    unfold lks at this
    omega
  have hqe := qB_enter hss (decide (0 < I)) hgd hfree hxk hdk hne1 h0
  rw [← inn_step hs hx he] at hqe
  have hqd : qB (inn X.l I y.x J) (decide (0 < I)) y.x.num = some (pB (inn X.l I y.x J) (decide (0 < I)) { y.x with ents := y.x.ents.take J }) := qB_get hgd
  have hqk : qB (inn X.l I y.x J) (decide (0 < I)) e.2 = some (pB (inn X.l I y.x J) (decide (0 < I)) xk) := qB_get hxk
  have hmd : mdF X.l (I + 1) y.x.num = true := by rw [(mdF_step hx).1 hkd]; simp
  have hlb := lks_bound (l := X.l) (B := 1000000000) (fun x hx => (hel x hx).1) e.2
  have hlen := hX.len
  have hn2 := hX.n2
  have hm1 : X.l.length * 1000000000 ≤ 4096 * 1000000000 := Nat.mul_le_mul_right _ (by omega)
  have hlinks : 0 ≤ (pB (inn X.l I y.x J) (decide (0 < I)) xk).links ∧ (pB (inn X.l I y.x J) (decide (0 < I)) xk).links ≤ 1000000000000000 := by
    have e1 : (pB (inn X.l I y.x J) (decide (0 < I)) xk).links = (lkS (inn X.l I y.x J) e.2 : Int) + 0 := by
      unfold pB
      simp only [(get_some hxk).2]
      rw [if_neg (fun h => hne1 h.1)]
    rw [e1]
    unfold lks at hlb
    constructor
    · omega
    · split at hlb <;> omega
  have hneb : (pB (inn X.l I y.x J) (decide (0 < I)) { y.x with ents := y.x.ents.take J }).ne ≤ 1000000000000000 := by
    show (y.x.ents.take J).length ≤ _
    rw [List.length_take]
    have := hw.el
    omega
  have hE := enterG_any (h2.nw hU) y.x.num e.2 hw.n64 (hw.e64 e hem) e.1 (hw.nl e hem) hqd hmd hfree hneb hqk hdk hlinks
  refine Calls.mono hE ?_
  rintro r w' ⟨hr, hF, hfr⟩
  rw [← hqe] at hF
  have t1 := tg_cells (hU.heap hnode)
  have hb1 : tg U (L y.x.num).eb = none := (h2.nw hU).teb hqd hmd
  have hb2 : tg U (L e.2).ib = some 104 := (h2.nw hU).tib hqk
  refine ⟨hr, (h1.trans hU).then hfr (fun i hi => .inr ?_), hfr.heap (hU.heap hnode) (fun e1 => ?_), L, hF, fun k hk => ?_⟩
  · rcases hi with rfl | rfl
    · exact h3 _ (.inr (.inr ⟨_, _, hqd, .inr (.inl ⟨hmd, rfl⟩)⟩))
    · exact h3 _ (.inr (.inr ⟨_, _, hqk, .inl rfl⟩))
  · rcases e1 with e1 | e1
    · rw [e1, hb1] at t1; cases t1
    · rw [e1, hb2] at t1; exact absurd t1 (by decide)
  · rcases hk with rfl | rfl | ⟨n, p, hp, hk⟩
    · exact h3 k (.inl rfl)
    · exact h3 k (.inr (.inl rfl))
    · rw [hqe] at hp
      obtain ⟨p', hp', _⟩ := entQ_some hp
      exact h3 k (.inr (.inr ⟨n, p', hp', hk⟩))
/-- The end of an inode that is not the root. -/
theorem bc_next {fb mb I J nb : Nat} {y : Nq} (hB : BC V X fb mb I y J nb W) (hX : WF X) (hx : X.l[I]? = some y.x) (hJ : J = y.x.ents.length) (h1 : y.x.num ≠ 1) : BB V X fb mb (I + 1) W := by
  obtain ⟨a1, _, L, a2, a3⟩ := hB
  have hI : I ≠ 0 := fun e => by
    subst e
    obtain ⟨r, t, el, r1, _⟩ := hX.rt
    rw [el] at hx
    simp only [List.getElem?_cons_zero, Option.some.injEq] at hx
    rw [← hx] at h1; exact h1 r1
  have e1 : decide (0 < I) = decide (0 < I + 1) := by simp; omega
  rw [inn_full hx hJ, e1] at a2 a3
  exact ⟨a1, L, a2, a3⟩
/-- The root's own name. -/
theorem bc_root {fb mb I J nb : Nat} {wr : World} {y : Nq} (hB : BC V X fb mb I y J nb wr) (hX : WF X) (hx : X.l[I]? = some y.x) (hJ : J = y.x.ents.length) (h1 : y.x.num = 1) :
    ∃ ib, (∀ U, Nw wr U → (Instr.lookup 98 (.map (some mb)) (.int .i64 1) false).run Tryz.prog U = .ok (.pointer (some ⟨ib, 0, none⟩)) U ∧ U.cell? ⟨fb, 0, none⟩ = some (.map (some mb))) ∧ (∃ u, wr.cell? ⟨ib, 9, none⟩ = some u) ∧ wr.frozen? ⟨ib, 9, none⟩ = false ∧
      ∃ W7, W7 = wr.drew.setCell ⟨ib, 9, none⟩ (.int .i64 1) ∧ (Instr.lookup 98 (.map (some mb)) (.int .i64 1) false).run Tryz.prog W7 = .ok (.pointer (some ⟨ib, 0, none⟩)) W7 ∧ W7.cell? ⟨fb, 0, none⟩ = some (.map (some mb)) ∧ (∃ u, W7.cell? ⟨ib, 10, none⟩ = some u) ∧ W7.frozen? ⟨ib, 10, none⟩ = false ∧
      ∃ W8, W8 = W7.setCell ⟨ib, 10, none⟩ (.int .i64 1) ∧ (Instr.lookup 98 (.map (some mb)) (.int .i64 1) false).run Tryz.prog W8 = .ok (.pointer (some ⟨ib, 0, none⟩)) W8 ∧ W8.cell? ⟨fb, 0, none⟩ = some (.map (some mb)) ∧ BB V X fb mb (I + 1) W8 := by
  obtain ⟨a1, _, L, a2, a3⟩ := hB
  have hxm : y.x ∈ X.l := List.mem_of_getElem? hx
  have hI : I = 0 := by
    obtain ⟨r, t, el, r1, _⟩ := hX.rt
    have hgr : X.l[0]? = some r := by rw [el]; rfl
    obtain ⟨hI1, hI2⟩ := List.getElem?_eq_some_iff.1 hx
    obtain ⟨h01, h02⟩ := List.getElem?_eq_some_iff.1 hgr
    by_cases h0 : I = 0
    · exact h0
    · have := List.pairwise_iff_getElem.1 hX.srt 0 I h01 hI1 (by omega)
      rw [h02, hI2, r1, h1] at this
      omega
  subst hI
  have hkd : y.x.kind = 1 := by
    obtain ⟨r, t, el, r1, r2⟩ := hX.rt
    have : r ∈ X.l := by rw [el]; exact List.mem_cons_self ..
    rw [hX.uniq hxm this (by rw [h1, r1])]; exact r2
  obtain ⟨xJ, hxJ⟩ : ∃ xJ : Nd, xJ = { y.x with ents := y.x.ents.take J } := ⟨_, rfl⟩
  have hg : get (inn X.l 0 y.x J) 1 = some xJ := by rw [hxJ, ← h1]; exact get_inn hX.srt hx J
  have hkJ : xJ.kind = 1 := by rw [hxJ]; exact hkd
  have hlk : lkS (inn X.l 0 y.x J) 1 = 0 := by
    rw [inn_full hx hJ]
    have h2 : lkS (cI X.l (0 + 1)) 1 ≤ lkS X.l 1 := by
      unfold cI
      rw [lkS_app, lkS_clr]
      conv => rhs; rw [← List.take_append_drop (0 + 1) X.l, lkS_app]
      omega
    have h3 := hX.lkd y.x hxm hkd
    rw [h1] at h3
    unfold lks at h3
    rw [if_pos rfl] at h3
    omega
  have hq : qB (inn X.l 0 y.x J) (decide (0 < 0)) 1 = some (pB (inn X.l 0 y.x J) false xJ) := qB_get hg
  have hqr := qB_root hg hkJ hlk
  have i1 : I64 1 := ⟨by omega, by omega⟩
  obtain ⟨dv, ev, k1, k2, k3, k4⟩ := (a2.nd 1 _ hq).blk
  have f7 : Fr (fun k => k = (L 1).ib) wr (wr.drew.setCell ⟨(L 1).ib, 9, none⟩ (.int .i64 1)) := ((Fr.refl (fun k => k = (L 1).ib) wr).drew).setCell ⟨(L 1).ib, 9, none⟩ _ (.inl rfl)
  have k7 := rset (w := wr.drew) k1 9 (.int .i64 1)
  have hT7 := a2.turnS hq (p' := { pB (inn X.l 0 y.x J) false xJ with links := 1 }) f7 (fun k e => .inl e) ((a2.nd 1 _ hq).re f7 rfl rfl rfl (fun dv ev hh => by
    have := rset (w := wr.drew) hh 9 (.int .i64 1)
    rw [this]; rfl))
  have hq7 : (fun k => if k = 1 then some { pB (inn X.l 0 y.x J) false xJ with links := 1 } else qB (inn X.l 0 y.x J) (decide (0 < 0)) k) 1 = some { pB (inn X.l 0 y.x J) false xJ with links := 1 } := by simp
  have f8 : Fr (fun k => k = (L 1).ib) (wr.drew.setCell ⟨(L 1).ib, 9, none⟩ (.int .i64 1)) ((wr.drew.setCell ⟨(L 1).ib, 9, none⟩ (.int .i64 1)).setCell ⟨(L 1).ib, 10, none⟩ (.int .i64 1)) := (Fr.refl (fun k => k = (L 1).ib) _).setCell ⟨(L 1).ib, 10, none⟩ _ (.inl rfl)
  have hT8 := hT7.turnS hq7 (p' := { pB (inn X.l 0 y.x J) false xJ with links := 1, up := 1 }) f8 (fun k e => .inl e) ((hT7.nd 1 _ hq7).re f8 rfl rfl rfl (fun dv ev hh => by
    have := rset hh 10 (.int .i64 1)
    rw [this]; rfl))
  have hqe : (fun k => if k = 1 then some { pB (inn X.l 0 y.x J) false xJ with links := 1, up := 1 } else (fun k => if k = 1 then some { pB (inn X.l 0 y.x J) false xJ with links := 1 } else qB (inn X.l 0 y.x J) (decide (0 < 0)) k) k) = qB (inn X.l 0 y.x J) true := by
    rw [hqr]
    funext k
    by_cases hk : k = 1
    · simp [hk]
    · simp [hk]
  rw [hqe] at hT8
  have hq8 : qB (inn X.l 0 y.x J) true 1 = some { pB (inn X.l 0 y.x J) false xJ with links := 1, up := 1 } := by rw [hqr]; simp
  have hib : V.heap.size ≤ (L 1).ib := a3 _ (.inr (.inr ⟨_, _, hq, .inl rfl⟩))
  refine ⟨(L 1).ib, fun U hU => ⟨(a2.nw hU).look i1 hq, (rc (a2.nw hU).blk 0 _ rfl).1⟩, ⟨_, (rc k1 9 _ rfl).1⟩, (rc k1 9 (.int .i64 _) rfl).2, _, rfl, hT7.look i1 hq7, (rc hT7.blk 0 _ rfl).1, ⟨_, (rc k7 10 _ rfl).1⟩, (rc k7 10 (.int .i64 _) rfl).2, _, rfl, hT8.look i1 hq8, (rc hT8.blk 0 _ rfl).1, (a1.then f7 (fun i hi => .inr (by omega))).then f8 (fun i hi => .inr (by omega)), L, ?_, fun k hk => ?_⟩
  · rw [← inn_full hx hJ]; exact hT8
  · rw [← inn_full hx hJ] at hk
    rcases hk with rfl | rfl | ⟨n, p, hp, hk⟩
    · exact a3 k (.inl rfl)
    · exact a3 k (.inr (.inl rfl))
    · by_cases hn : n = 1
      · rw [hn] at hk
        exact a3 k (.inr (.inr ⟨1, _, hq, hk⟩))
      · have hp2 : qB (inn X.l 0 y.x J) true n = some p := hp
        rw [hqr] at hp2
        simp only [if_neg hn] at hp2
        exact a3 k (.inr (.inr ⟨n, p, hp2, hk⟩))
/-- All is built. -/
theorem bb_fs {fb mb I : Nat} (hB : BB V X fb mb I W) (hX : WF X) (hI : I = X.l.length) : Nw V W ∧ ∃ L, FsH fb mb none L (hOf X) (qOf X.l) X.l.length [] W ∧ ∀ k, Bk fb mb none L (qOf X.l) k → V.heap.size ≤ k := by
  obtain ⟨a1, L, a2, a3⟩ := hB
  subst hI
  have hpos : 0 < X.l.length := by
    obtain ⟨r, t, el, _⟩ := hX.rt
    rw [el]; simp
  rw [cI_all X.l rfl, decide_eq_true hpos, qB_end hX] at a2 a3
  have hmd : ∀ k p, qOf X.l k = some p → (mdF X.l X.l.length k = true ↔ p.kind = 1) := fun k p hp => by
    obtain ⟨x, hg, _, _, rfl⟩ := qOf_some hp
    rw [mdF_all hX.srt hg, decide_eq_true_eq]; rfl
  refine ⟨a1, L, a2.fs hmd, fun k hk => ?_⟩
  rcases hk with rfl | rfl | hk | ⟨n, p, hp, hk⟩
  · exact a3 k (.inl rfl)
  · exact a3 k (.inr (.inl rfl))
  · cases hk
  · refine a3 k (.inr (.inr ⟨n, p, hp, ?_⟩))
    rcases hk with e | ⟨hk1, e⟩ | e
    · exact .inl e
    · exact .inr (.inl ⟨(hmd n p hp).2 hk1, e⟩)
    · exact .inr (.inr e)
end Go.Proofs.YtcogkhcfpgelhaaGreat

namespace Go.Proofs.YtcogkhcfpgelhaaGreat
open Go.RowKit
set_option linter.unusedVariables false
set_option maxRecDepth 100000
variable {w w' W V : World}
/-- A file system of an image that can be, made since. -/
def Blt (X : Im) (w : World) (fb mb : Nat) (w' : World) : Prop := ∃ L, FsH fb mb none L (hOf X) (qOf X.l) X.l.length [] w' ∧ Nw w w' ∧ ∀ k, Bk fb mb none L (qOf X.l) k → w.heap.size ≤ k
theorem ba_start (X : Im) (V : World) : BA V X (V.heap.size + 1) V.heap.size 0 0 ((V.alloc (.map #[] 0)).alloc (.cells #[.map (some V.heap.size), .int .i64 X.nodes, .int .i64 X.bytes, .int .i64 0, .int .i64 X.next, .slice none 0 0] 100)).drew := by
  have e : (V.alloc (.map #[] 0)).heap.size = V.heap.size + 1 := by simp
  refine ⟨(((Fr.refl _ _).alloc _).alloc _).drew, fun _ => ⟨0, 0, none⟩, ⟨?_, ?_, fun k p hp => ?_, fun k k' p p' hp => ?_, fun k p hp => ?_⟩, fun k hk => ?_⟩
  · rw [← e]
    exact nh (V.alloc (.map #[] 0)) (.cells #[.map (some V.heap.size), .int .i64 X.nodes, .int .i64 X.bytes, .int .i64 0, .int .i64 X.next, .slice none 0 0] 100)
  · exact ((Mp.made V).nw (((Fr.refl _ _).alloc _).drew)).cong (fun k _ => by simp [q1, get])
  · simp [q1, get] at hp
  · simp [q1, get] at hp
  · simp [q1, get] at hp
  · rcases hk with rfl | rfl | ⟨n, p, hp, hk⟩
    · omega
    · omega
    · simp [q1, get] at hp
set_option maxHeartbeats 32000000 in
theorem build_any (X : Im) (hX : WF X) (l : List Nq) (a : Option Addr) (n c : Nat) (hl : l.map Nq.x = X.l) (hn : n = l.length) (hm : ImR (.slice a n c) l w) (hw : ∀ y ∈ l, NdW y.x) :
    Calls Tryz.prog 81 #[imV X (.slice a n c)] w fun e w' => ∃ fb mb, e = .returned (.pointer (some ⟨fb, 0, none⟩)) ∧ Blt X w fb mb w' := by
  obtain ⟨P, hP⟩ : ∃ P : Ending → World → Prop, P = fun e w' => ∃ fb mb, e = .returned (.pointer (some ⟨fb, 0, none⟩)) ∧ Blt X w fb mb w' := ⟨_, rfl⟩
  rw [← hP]
  obtain ⟨V, hV⟩ : ∃ V, w.alloc (.cells #[.int .i64 X.nodes, .int .i64 X.bytes, .int .i64 X.next, .slice a n c] 37) = V := ⟨_, rfl⟩
  have hN : Nw w V := by rw [← hV]; exact (Fr.refl _ _).alloc _
  have hm1 : (Instr.makeMap 98 (some (.int .i64 n))).run Tryz.prog V.drew = .ok (.map (some V.heap.size)) (V.alloc (.map #[] 0)).drew := mkMap_hint miOk n V.drew
  have HI : Hid (∀ W, Nw V W → W.cell? ⟨w.heap.size, 0, none⟩ = some (.int .i64 X.nodes) ∧ W.cell? ⟨w.heap.size, 1, none⟩ = some (.int .i64 X.bytes) ∧ W.cell? ⟨w.heap.size, 2, none⟩ = some (.int .i64 X.next) ∧ W.cell? ⟨w.heap.size, 3, none⟩ = some (.slice a n c)) := fun W hW => ⟨hW.cell (by rw [← hV]; exact (rc (nh w _) 0 _ rfl).1), hW.cell (by rw [← hV]; exact (rc (nh w _) 1 _ rfl).1), hW.cell (by rw [← hV]; exact (rc (nh w _) 2 _ rfl).1), hW.cell (by rw [← hV]; exact (rc (nh w _) 3 _ rfl).1)⟩
  have HM : Hid (∀ W, Nw V W → ImR (.slice a n c) l W) := fun W hW => (hm.nw hN).nw hW
  have hsz : w.heap.size < V.heap.size := by rw [← hV]; simp
  have hne : ¬ w.heap.size = V.heap.size := by omega
  have hB0 := ba_start X V
  obtain ⟨V2, hV2⟩ : ∃ V2, ((V.alloc (.map #[] 0)).alloc (.cells #[.map (some V.heap.size), .int .i64 X.nodes, .int .i64 X.bytes, .int .i64 0, .int .i64 X.next, .slice none 0 0] 100)).drew = V2 := ⟨_, rfl⟩
  obtain ⟨mb, hmb⟩ : ∃ mb, V.heap.size = mb := ⟨_, rfl⟩
  obtain ⟨fb, hfb⟩ : ∃ fb, V.heap.size + 1 = fb := ⟨_, rfl⟩
  rw [hV2, hfb] at hB0
  rw [hmb] at hB0
  have HB0 := tHid hB0
  have HFin : Hid (∀ W, Nw V W → (∃ L, FsH fb mb none L (hOf X) (qOf X.l) X.l.length [] W ∧ ∀ k, Bk fb mb none L (qOf X.l) k → V.heap.size ≤ k) → P (.returned (.pointer (some ⟨fb, 0, none⟩))) W) := fun W h1 h2 => by
    obtain ⟨L, h3, h4⟩ := h2
    rw [hP]
    exact ⟨fb, mb, rfl, L, h3, hN.trans h1, fun k hk => by have := h4 k hk; omega⟩
  have hlen : X.l.length = n := by rw [← hl, List.length_map, hn]
  have HXI : Hid (∀ I (hI : I < l.length), X.l[I]? = some (l[I]).x) := fun I hI => by rw [← hl, List.getElem?_map, List.getElem?_eq_getElem hI]; rfl
  obtain ⟨i0, i1, i2, i3⟩ := HI.out V (Fr.refl _ _)
  have HV := tHid hV
  have HV2 := tHid hV2
  have HMB := tHid hmb
  have HFB := tHid hfb
  have HXX := tHid hX
  have HNN := tHid hn
  have HLN := tHid hlen
  have HWW := tHid hw
  have hn4 : n ≤ 4096 := by have := hX.len; have := hX.n2; omega
  have HN4 := tHid hn4
  clear hV hV2 hmb hfb hP hB0 hN hm hX hn hlen hw hl hn4
  go_enter Tryz.func81, Tryz.ntmps81
  go_upto_region 1 with fail
  rw [HV.out]
  clear HV
  go_region
  rw [HV2.out, HFB.out, HMB.out]
  clear hm1 i0 i1 i2 i3 HV2 HFB HMB hsz hne
  have j3 := (HI.out V2 HB0.out.1).2.2.2
  go_wp2_with fail
  clear j3
  go_loopg [25] n (fun kx i wr => ∃ I : Nat, I ≤ n ∧ n - I ≤ kx ∧ i = .int .i64 I ∧ Hid (BA V X fb mb (heldF (X.l.take I)) I wr))
  case atStart => exact ⟨0, by omega, by omega, rfl, HB0⟩
  case round =>
    clear HB0
    obtain ⟨I, hI, hkx, rfl, HR⟩ := hrel
    by_cases hlt : I < n
    · have hIl : I < l.length := by rw [← HNN.out]; exact hlt
      obtain ⟨g, o, rfl, hc⟩ := (HM.out wr HR.out.1).at I hIl
      obtain ⟨y, hy⟩ : ∃ y, l[I] = y := ⟨_, rfl⟩
      have hxI := HXI.out I hIl
      rw [hy] at hc hxI
      have hmy : y ∈ l := by rw [← hy]; exact List.getElem_mem hIl
      obtain ⟨c0, c1, c2, c3, c4, c5, c6, c7, c8, c9⟩ := hc
      have hry : NqR y wr := (HM.out wr HR.out.1).2 y hmy
      have hwy := HWW.out y hmy
      have hht := held_take hxI
      obtain ⟨H, hH⟩ : ∃ H, heldF (X.l.take I) = H := ⟨_, rfl⟩
      obtain ⟨H2, hH2⟩ : ∃ H2, heldF (X.l.take (I + 1)) = H2 := ⟨_, rfl⟩
      have hdl : y.x.data.length ≤ 4194304 := (HXX.out.kinds y.x (List.mem_of_getElem? hxI)).len
      have hheld : heldF (X.l.take (I + 1)) ≤ 4194304 := by
        have h1 : heldF (X.l.take (I + 1)) ≤ heldF X.l := by
          conv => rhs; rw [← List.take_append_drop (I + 1) X.l]
          rw [heldF_sum, heldF_sum, sumF_append]
          omega
        have h2 := HXX.out.held
        have h3 := HXX.out.b2
        omega
      have hBA := HR.out
      rw [hH] at hBA
      obtain ⟨V3, hV3⟩ : ∃ V3, wr.alloc (.cells (nqC y) 58) = V3 := ⟨_, rfl⟩
      have hN3 : Nw wr V3 := by rw [← hV3]; exact (Fr.refl _ _).alloc _
      have hs3 : V3.heap.size = wr.heap.size + 1 := by rw [← hV3]; simp
      have hd := NqC.made wr y
      rw [hV3] at hd
      have hfb0 : wr.cell? ⟨fb, 0, none⟩ = some (.map (some mb)) := (ba_held (H2 := 0) hBA).2.2.2
      have HD : Hid (∀ U, Nw V3 U → U.cell? ⟨fb, 0, none⟩ = some (.map (some mb)) ∧ U.cell? ⟨wr.heap.size, 0, none⟩ = some (.int .i64 y.x.num) ∧ U.cell? ⟨wr.heap.size, 1, none⟩ = some (.int .i64 y.x.kind) ∧ U.cell? ⟨wr.heap.size, 2, none⟩ = some (.int .u32 y.x.mt.mode) ∧ U.cell? ⟨wr.heap.size, 3, none⟩ = some (.int .u32 y.x.mt.uid) ∧ U.cell? ⟨wr.heap.size, 4, none⟩ = some (.int .u32 y.x.mt.gid) ∧ U.cell? ⟨wr.heap.size, 5, none⟩ = some (.int .i64 y.x.mt.time) ∧ U.cell? ⟨wr.heap.size, 6, none⟩ = some (.int .i32 y.x.mt.nano) ∧ U.cell? ⟨wr.heap.size, 7, none⟩ = some (.slice y.d.a y.d.n y.d.c) ∧ U.cell? ⟨wr.heap.size, 8, none⟩ = some (.string (mk y.x.tgt))) := fun U hU => by
        obtain ⟨z0, z1, z2, z3, z4, z5, z6, z7, z8, z9⟩ := hd.nw hU
        exact ⟨hU.cell (hN3.cell hfb0), z0, z1, z2, z3, z4, z5, z6, z7, z8⟩
      have HCL : Hid (∀ U, Nw V3 U → Calls Tryz.prog 68 #[.slice y.d.a y.d.n y.d.c] U fun e w5 => ∃ a5 c5, e = .returned (.slice a5 y.d.n c5) ∧ Hid (Nw V3 w5 ∧ ∃ od, OgB od (.slice a5 y.d.n c5) y.x.data w5 ∧ ∀ g, od = some g → wr.heap.size < g)) := fun U hU => by
        refine Calls.mono (bcl_any U y.d.a y.d.n y.d.c y.x.data hry.dn.1 ((hry.nw hN3).nw hU).1 hwy.dl) ?_
        rintro e w5 ⟨a5, c5, od, rfl, o1, o2, o3⟩
        have := hU.size
        exact ⟨a5, c5, rfl, hU.trans o2, od, o1, fun g hg => by have := o3 g hg; omega⟩
      have HMU : Hid (∀ a5 c5 w5, Hid (Nw V3 w5 ∧ ∃ od, OgB od (.slice a5 y.d.n c5) y.x.data w5 ∧ ∀ g, od = some g → wr.heap.size < g) → ∃ W, (Instr.mapUpdate 98 (.map (some mb)) (.int .i64 y.x.num) (.pointer (some ⟨w5.heap.size, 0, none⟩))).run Tryz.prog (w5.alloc (.cells #[.int .i64 y.x.kind, .int .u32 y.x.mt.mode, .int .u32 y.x.mt.uid, .int .u32 y.x.mt.gid, .int .i64 y.x.mt.time, .int .i32 y.x.mt.nano, .slice a5 y.d.n c5, .string (mk y.x.tgt), .map none, .int .i64 0, .int .i64 0] 104)) = .ok () W ∧ Hid (W.cell? ⟨fb, 0, none⟩ = some (.map (some mb)) ∧ W.cell? ⟨wr.heap.size, 0, none⟩ = some (.int .i64 y.x.num) ∧ W.cell? ⟨wr.heap.size, 1, none⟩ = some (.int .i64 y.x.kind) ∧ W.cell? ⟨wr.heap.size, 2, none⟩ = some (.int .u32 y.x.mt.mode) ∧ W.cell? ⟨wr.heap.size, 3, none⟩ = some (.int .u32 y.x.mt.uid) ∧ W.cell? ⟨wr.heap.size, 4, none⟩ = some (.int .u32 y.x.mt.gid) ∧ W.cell? ⟨wr.heap.size, 5, none⟩ = some (.int .i64 y.x.mt.time) ∧ W.cell? ⟨wr.heap.size, 6, none⟩ = some (.int .i32 y.x.mt.nano) ∧ W.cell? ⟨wr.heap.size, 7, none⟩ = some (.slice y.d.a y.d.n y.d.c) ∧ W.cell? ⟨wr.heap.size, 8, none⟩ = some (.string (mk y.x.tgt))) ∧ W.cell? ⟨fb, 3, none⟩ = some (.int .i64 H) ∧ W.frozen? ⟨fb, 3, none⟩ = false ∧ W.cell? ⟨wr.heap.size, 7, none⟩ = some (.slice y.d.a y.d.n y.d.c) ∧ Hid (BA V X fb mb H2 (I + 1) (W.drew.setCell ⟨fb, 3, none⟩ (.int .i64 H2)))) := fun a5 c5 w5 h5 => by
        obtain ⟨k1, od, k2, k3⟩ := h5.out
        obtain ⟨W, r1, r2, r3⟩ := ba_step hBA HXX.out.srt (by have := HN4.out; omega) hxI hwy.n64 (by rw [hV3]; exact k1) k2 k3
        obtain ⟨q1, q2, q3, q4⟩ := ba_held (H2 := H2) r2
        exact ⟨W, r1, ⟨q4, (rc r3 0 _ rfl).1, (rc r3 1 _ rfl).1, (rc r3 2 _ rfl).1, (rc r3 3 _ rfl).1, (rc r3 4 _ rfl).1, (rc r3 5 _ rfl).1, (rc r3 6 _ rfl).1, (rc r3 7 _ rfl).1, (rc r3 8 _ rfl).1⟩, q2, q3, (rc r3 7 _ rfl).1, q1⟩
      have hsw : IntKind.i64.wrap ((H : Int) + (y.d.n : Int)) = (H2 : Int) := by
        have := hry.dn.1
        rw [IntKind.wrap_i64]; omega
      have hlt2 : (I : Int) < (n : Int) := by omega
      have hltd := decide_eq_true hlt2
      have hltn := decide_eq_true hlt
      have zwj : IntKind.i64.wrap ((I : Int) + 1) = (I : Int) + 1 := by rw [IntKind.wrap_i64]; have := HN4.out; omega
      have HV3 := tHid hV3
      have HH2 := tHid hH2
      unfold nqC at HV3
      clear hIl hy hxI hmy hry hwy hht hH hH2 hdl hheld hBA hV3 hN3 hs3 hd hfb0 HR HM HI HFin HXI HXX HWW
      go_upto_region 5 with fail
      rw [HV3.out]
      clear HV3 c0 c1 c2 c3 c4 c5 c6 c7 c8 c9
      generalize wr.heap.size = nb at *
      go_region_held3 (fun U => U.cell? ⟨fb, 0, none⟩ = some (.map (some mb)) ∧ U.cell? ⟨nb, 0, none⟩ = some (.int .i64 y.x.num) ∧ U.cell? ⟨nb, 1, none⟩ = some (.int .i64 y.x.kind) ∧ U.cell? ⟨nb, 2, none⟩ = some (.int .u32 y.x.mt.mode) ∧ U.cell? ⟨nb, 3, none⟩ = some (.int .u32 y.x.mt.uid) ∧ U.cell? ⟨nb, 4, none⟩ = some (.int .u32 y.x.mt.gid) ∧ U.cell? ⟨nb, 5, none⟩ = some (.int .i64 y.x.mt.time) ∧ U.cell? ⟨nb, 6, none⟩ = some (.int .i32 y.x.mt.nano) ∧ U.cell? ⟨nb, 7, none⟩ = some (.slice y.d.a y.d.n y.d.c) ∧ U.cell? ⟨nb, 8, none⟩ = some (.string (mk y.x.tgt)))
        (first | exact HD.out _ (Fr.refl _ _) | exact HD.out _ (Fr.refl _ _).drew | exact HD.out _ H5.out.1 | exact HD.out _ (H5.out.1.alloc _) | exact HS7.out)
        (first | (go_at_call 68; refine (HCL.out _ (by first | exact Fr.refl _ _ | exact (Fr.refl _ _).drew)).mono ?_; rintro e w5 ⟨a5, c5, rfl, H5⟩; obtain ⟨W7, r7, HS7, y3, g3, y7, HN7⟩ := HMU.out a5 c5 w5 H5))
      go_wp2_with fail
      go_region
      go_wp2_with fail
      go_roundg (n - (I + 1))
      case measure => omega
      case rel => exact ⟨I + 1, by omega, by omega, by first | rfl | (congr 1), by rw [HH2.out]; exact HN7⟩
    · have hIe : I = n := by omega
      have hlt2 : ¬ (I : Int) < (n : Int) := by omega
      have hltd := decide_eq_false hlt2
      have hltn := decide_eq_false hlt
      have hBA := HR.out
      rw [hIe, ← HLN.out, List.take_length] at hBA
      have HB0 := tHid (ba_bb hBA rfl)
      have j3 := (HI.out wr HB0.out.1).2.2.2
      clear HR hBA hIe
      go_wp2_with fail
      clear j3 hltd hltn hlt2
      go_loopg [60] n (fun kx i wr => ∃ I : Nat, I ≤ n ∧ n - I ≤ kx ∧ i = .int .i64 I ∧ Hid (BB V X fb mb I wr))
      case atStart => exact ⟨0, by omega, by omega, rfl, HB0⟩
      case round =>
        clear HB0 hlt hkx hI
        obtain ⟨I, hI, hkx, rfl, HR⟩ := hrel
        by_cases hlt : I < n
        · have hIl : I < l.length := by rw [← HNN.out]; exact hlt
          obtain ⟨g, o, rfl, hc⟩ := (HM.out wr HR.out.1).at I hIl
          obtain ⟨y, hy⟩ : ∃ y, l[I] = y := ⟨_, rfl⟩
          have hxI := HXI.out I hIl
          rw [hy] at hc hxI
          have hmy : y ∈ l := by rw [← hy]; exact List.getElem_mem hIl
          obtain ⟨c0, c1, c2, c3, c4, c5, c6, c7, c8, c9⟩ := hc
          have hwy := HWW.out y hmy
          obtain ⟨U, hU⟩ : ∃ U, wr.alloc (.cells (nqC y) 58) = U := ⟨_, rfl⟩
          have hNU : Nw wr U := by rw [← hU]; exact (Fr.refl _ _).alloc _
          have hd := NqC.made wr y
          rw [hU] at hd
          obtain ⟨z0, z1, z2, z3, z4, z5, z6, z7, z8, z9⟩ := hd
          simp only [Nat.zero_add] at z1 z2 z3 z4 z5 z6 z7 z8 z9
          have hry : NqR y wr := (HM.out wr HR.out.1).2 y hmy
          have hlt2 : (I : Int) < (n : Int) := by omega
          have hltd := decide_eq_true hlt2
          have hltn := decide_eq_true hlt
          have zwj : IntKind.i64.wrap ((I : Int) + 1) = (I : Int) + 1 := by rw [IntKind.wrap_i64]; have := HN4.out; omega
          have HU := tHid hU
          have HUS := tHid hU.symm
          have HXY := tHid hxI
          have HWY := tHid hwy
          have HMY := tHid hmy
          have HEN := tHid hry.en
          have hkd : y.x.kind = 1 ∨ y.x.kind ≠ 1 := by by_cases h : y.x.kind = 1; exact .inl h; exact .inr h
          have HKD := tHid hkd
          obtain ⟨nb, hnb⟩ : ∃ nb, wr.heap.size = nb := ⟨_, rfl⟩
          have HNB := tHid hnb
          rw [hnb] at z0 z1 z2 z3 z4 z5 z6 z7 z8 z9
          unfold nqC at HU
          clear hIl hy hxI hmy hwy hU hNU hry hkd hnb
          go_upto_region 11 with fail
          rw [HU.out, HNB.out]
          clear HU c0 c1 c2 c3 c4 c5 c6 c7 c8 c9
          go_upto_if 66 with fail
          go_cut [66] from 66 to 79 (fun v wx => Hid (BC V X fb mb I y 0 nb wx))
          case first =>
            rcases HKD.out with hk1 | hk1
            · obtain ⟨ib, hlk, hibl, hfbl, ⟨u8, hc8⟩, hf8, hBC, hlk5, hfb5⟩ := bb_dir HR.out HXX.out.srt HXY.out hk1 HWY.out.n64 HUS.out
              have hm4 : (Instr.makeMap 102 (some (.int .i64 y.e.n))).run Tryz.prog U.drew = .ok (.map (some U.heap.size)) (U.alloc (.map #[] 0)).drew := mkMap_hint meOk y.e.n U.drew
              obtain ⟨V5, hV5⟩ : ∃ V5, (U.alloc (.map #[] 0)).drew = V5 := ⟨_, rfl⟩
              have hN5 : Nw U V5 := by rw [← hV5]; exact ((Fr.refl _ _).alloc _).drew
              have hUs : wr.heap.size < U.heap.size := by rw [HUS.out]; simp
              have x8 := hN5.cell hc8
              have g8 : V5.frozen? ⟨ib, 8, none⟩ = false := by
                have h9 := hN5.block ib (by omega) (fun h => h)
                have : V5.frozen? ⟨ib, 8, none⟩ = U.frozen? ⟨ib, 8, none⟩ := by unfold World.frozen?; rw [h9]
                rw [this]; exact hf8
              rw [hV5] at hm4 hBC hlk5 hfb5
              obtain ⟨W5, hW5⟩ : ∃ W5, V5.setCell ⟨ib, 8, none⟩ (.map (some U.heap.size)) = W5 := ⟨_, rfl⟩
              rw [hW5] at hBC hlk5 hfb5
              rw [HNB.out] at hBC hibl hfbl hUs
              have hnode5 : W5.heap[nb]? = some (.cells (nqC y) 58) := hBC.2.1
              have HBC := tHid hBC
              have HSU : Hid (∀ Z, Nw U Z → Z.cell? ⟨fb, 0, none⟩ = some (.map (some mb)) ∧ Z.cell? ⟨nb, 0, none⟩ = some (.int .i64 y.x.num) ∧ Z.cell? ⟨nb, 9, none⟩ = some (.slice y.e.a y.e.n y.e.c) ∧ (Instr.lookup 98 (.map (some mb)) (.int .i64 y.x.num) false).run Tryz.prog Z = .ok (.pointer (some ⟨ib, 0, none⟩)) Z) := fun Z hZ => ⟨(hlk Z hZ).2, hZ.cell z0, hZ.cell z9, (hlk Z hZ).1⟩
              have HSW : Hid (W5.cell? ⟨fb, 0, none⟩ = some (.map (some mb)) ∧ W5.cell? ⟨nb, 0, none⟩ = some (.int .i64 y.x.num) ∧ W5.cell? ⟨nb, 9, none⟩ = some (.slice y.e.a y.e.n y.e.c) ∧ (Instr.lookup 98 (.map (some mb)) (.int .i64 y.x.num) false).run Tryz.prog W5 = .ok (.pointer (some ⟨ib, 0, none⟩)) W5) := ⟨hfb5, (rc hnode5 0 _ rfl).1, (rc hnode5 9 _ rfl).1, hlk5⟩
              have HN5 := tHid hN5
              have hkb : (y.x.kind == 1) = true := by rw [hk1]; rfl
              clear hk1 HR HM HI HFin HXI HXX HWW hlk hibl hfbl hc8 hf8 hBC hlk5 hfb5 hN5 hnode5 hUs HUS HKD z0 z1 z2 z3 z4 z5 z6 z7 z8 z9
              go_wp2_with fail
              go_region_held3 (fun Z => Z.cell? ⟨fb, 0, none⟩ = some (.map (some mb)) ∧ Z.cell? ⟨nb, 0, none⟩ = some (.int .i64 y.x.num) ∧ Z.cell? ⟨nb, 9, none⟩ = some (.slice y.e.a y.e.n y.e.c) ∧ (Instr.lookup 98 (.map (some mb)) (.int .i64 y.x.num) false).run Tryz.prog Z = .ok (.pointer (some ⟨ib, 0, none⟩)) Z)
                (first | exact HSU.out _ (Fr.refl _ _) | exact HSU.out _ (Fr.refl _ _).drew | exact HSU.out _ HN5.out | exact HSW.out)
                (fail)
              all_goals go_wp2_with fail
              all_goals go_meet
              all_goals exact HBC
            · have hBC := bb_file HR.out HXY.out hk1
              rw [HNB.out, ← HUS.out] at hBC
              have HBC := tHid hBC
              have hkb : (y.x.kind == 1) = false := by rw [beq_eq_false_iff_ne]; exact hk1
              clear hk1 HR HM HI HFin HXI HXX HWW hBC HUS HKD
              go_wp2_with fail
              go_meet
              exact HBC
          case rest =>
          have HB0 := hcut
          clear z0 z1 z2 z3 z4 z5 z6 z7 z8 z9 HR HUS HKD
          have hnode := HB0.out.2.1
          have t9 : wc.cell? ⟨nb, 9, none⟩ = some (.slice y.e.a y.e.n y.e.c) := (rc hnode 9 _ rfl).1
          clear hnode
          go_wp2_with fail
          clear t9
          go_loopg [83] y.e.n (fun kx i wr => ∃ J : Nat, J ≤ y.e.n ∧ y.e.n - J ≤ kx ∧ i = .int .i64 J ∧ Hid (BC V X fb mb I y J nb wr))
          case atStart => exact ⟨0, by omega, by omega, rfl, HB0⟩
          case round =>
            clear hcut HB0
            obtain ⟨J, hJ, hkx3, rfl, HR⟩ := hrel
            by_cases hltJ : J < y.e.n
            · have hJl : J < y.x.ents.length := by rw [← HEN.out.1]; exact hltJ
              obtain ⟨g2, o2, hea, _, hc⟩ := ((HM.out wr HR.out.1).2 y HMY.out).2.at J (y.x.ents[J]) (List.getElem?_eq_getElem hJl)
              have c0 : wr.cell? ⟨g2, o2 + J * 2, none⟩ = some (.string (mk (y.x.ents[J]).1)) := hc 0 _ rfl
              have c1 : wr.cell? ⟨g2, o2 + J * 2 + 1, none⟩ = some (.int .i64 (y.x.ents[J]).2) := hc 1 _ rfl
              obtain ⟨e, he⟩ : ∃ e, y.x.ents[J] = e := ⟨_, rfl⟩
              rw [he] at c0 c1
              have heJ : y.x.ents[J]? = some e := by rw [List.getElem?_eq_getElem hJl, he]
              obtain ⟨V5, hV5⟩ : ∃ V5, wr.alloc (.cells #[.string (mk e.1), .int .i64 e.2] 109) = V5 := ⟨_, rfl⟩
              have hN5 : Nw wr V5 := by rw [← hV5]; exact (Fr.refl _ _).alloc _
              have q0 : V5.cell? ⟨wr.heap.size, 0, none⟩ = some (.string (mk e.1)) := by rw [← hV5]; exact (rc (nh wr _) 0 _ rfl).1
              have q1 : V5.cell? ⟨wr.heap.size, 1, none⟩ = some (.int .i64 e.2) := by rw [← hV5]; exact (rc (nh wr _) 1 _ rfl).1
              have q2 : V5.cell? ⟨nb, 0, none⟩ = some (.int .i64 y.x.num) := hN5.cell (rc HR.out.2.1 0 _ rfl).1
              have HE : Hid (Calls Tryz.prog 100 #[.pointer (some ⟨fb, 0, none⟩), .agg #[.int .i64 y.x.num, .string (mk e.1)], .int .i64 e.2] V5 fun r w' => (∃ v, r = .returned v) ∧ Hid (BC V X fb mb I y (J + 1) nb w')) := bc_step HR.out HXX.out HXY.out heJ HWY.out (fun x hx => by
                have hlm : ∃ z ∈ l, z.x = x := by
                  obtain ⟨i, hi, e1⟩ := List.getElem_of_mem hx
                  have hil : i < l.length := by have := HLN.out; have := HNN.out; omega
                  have h9 := HXI.out i hil
                  rw [List.getElem?_eq_getElem hi, e1] at h9
                  injection h9 with h9
                  exact ⟨l[i], List.getElem_mem hil, h9.symm⟩
                obtain ⟨z, hz, rfl⟩ := hlm
                exact ⟨(HWW.out z hz).el, (HWW.out z hz).n64⟩) hN5
              have hlt2 : (J : Int) < (y.e.n : Int) := by omega
              have hltd := decide_eq_true hlt2
              have hltn := decide_eq_true hltJ
              have zwk : IntKind.i64.wrap ((J : Int) + 1) = (J : Int) + 1 := by rw [IntKind.wrap_i64]; have := HEN.out.2.1; have := HEN.out.2.2; omega
              have HV5 := tHid hV5
              have HEA := tHid hea
              clear hJl hc he heJ hV5 hN5 HR HM HI HFin HXI HXX HWW hea zwj
              rw [HEA.out]
              go_upto_region 16 with fail
              rw [HV5.out]
              clear HV5 c0 c1
              go_wp2_with (first | (go_at_call 100; with_reducible refine HE.out.mono ?_; rintro r w6 ⟨⟨v, rfl⟩, H6⟩))
              rw [← HEA.out]
              go_roundg (y.e.n - (J + 1))
              case measure => omega
              case rel => exact ⟨J + 1, by omega, by omega, by first | rfl | (congr 1), H6⟩
            · have hJe : J = y.e.n := by omega
              have hJx : J = y.x.ents.length := by rw [hJe]; exact HEN.out.1
              have hlt2 : ¬ (J : Int) < (y.e.n : Int) := by omega
              have hltd := decide_eq_false hlt2
              have hltn := decide_eq_false hltJ
              have q2 : wr.cell? ⟨nb, 0, none⟩ = some (.int .i64 y.x.num) := (rc HR.out.2.1 0 _ rfl).1
              by_cases h1 : y.x.num = 1
              · obtain ⟨ib, hlk, ⟨u9, hc9⟩, hf9, W7, hW7, hl7, hf7, ⟨ua, hca⟩, hfa, W8, hW8, hl8, hf8, hBB⟩ := bc_root HR.out HXX.out HXY.out hJx h1
                have HBB := tHid hBB
                have HSA : Hid (∀ Z, Nw wr Z → Z.cell? ⟨fb, 0, none⟩ = some (.map (some mb)) ∧ (Instr.lookup 98 (.map (some mb)) (.int .i64 1) false).run Tryz.prog Z = .ok (.pointer (some ⟨ib, 0, none⟩)) Z) := fun Z hZ => ⟨(hlk Z hZ).2, (hlk Z hZ).1⟩
                have HS7 : Hid (W7.cell? ⟨fb, 0, none⟩ = some (.map (some mb)) ∧ (Instr.lookup 98 (.map (some mb)) (.int .i64 1) false).run Tryz.prog W7 = .ok (.pointer (some ⟨ib, 0, none⟩)) W7) := ⟨hf7, hl7⟩
                have HS8 : Hid (W8.cell? ⟨fb, 0, none⟩ = some (.map (some mb)) ∧ (Instr.lookup 98 (.map (some mb)) (.int .i64 1) false).run Tryz.prog W8 = .ok (.pointer (some ⟨ib, 0, none⟩)) W8) := ⟨hf8, hl8⟩
                have hW7' := hW7.symm
                have hW8' := hW8.symm
                clear HR HM HI HFin HXI HXX HWW hlk hf7 hl7 hf8 hl8 hBB hJe hJx hW7 hW8 hltJ
                go_upto_region 19 with fail
                go_region_held3 (fun Z => Z.cell? ⟨fb, 0, none⟩ = some (.map (some mb)) ∧ (Instr.lookup 98 (.map (some mb)) (.int .i64 1) false).run Tryz.prog Z = .ok (.pointer (some ⟨ib, 0, none⟩)) Z)
                  (first | exact HSA.out _ (Fr.refl _ _) | exact HSA.out _ (Fr.refl _ _).drew | exact HS7.out | exact HS8.out)
                  (fail)
                all_goals go_wp2_with fail
                all_goals go_roundg (n - (I + 1))
                all_goals first
                  | exact ⟨I + 1, by omega, by omega, by first | rfl | (congr 1), HBB⟩
                  | omega
              · have HBB := tHid (bc_next HR.out HXX.out HXY.out hJx h1)
                have hnb1 : (y.x.num == 1) = false := by rw [beq_eq_false_iff_ne]; exact h1
                clear HR HM HI HFin HXI HXX HWW hJe hJx hltJ
                go_wp2_with fail
                go_roundg (n - (I + 1))
                case measure => omega
                case rel => exact ⟨I + 1, by omega, by omega, by first | rfl | (congr 1), HBB⟩
        · have hIe : I = n := by omega
          have hlt2 : ¬ (I : Int) < (n : Int) := by omega
          have hltd := decide_eq_false hlt2
          have hltn := decide_eq_false hlt
          obtain ⟨b1, b2⟩ := bb_fs HR.out HXX.out (by rw [hIe, HLN.out])
          have HL := tHid (HFin.out wr b1 b2)
          clear HR HM HI HFin HXI HXX HWW b1 b2 hIe
          go_wp2_with fail
          exact HL.out
end Go.Proofs.YtcogkhcfpgelhaaGreat

namespace Go.Proofs.YtcogkhcfpgelhaaGreat
open Go.RowKit
set_option linter.unusedVariables false
set_option maxRecDepth 100000
variable {w w' W V : World}
set_option maxHeartbeats 8000000 in
theorem load_any (X : Im) (l : List Nq) (a : Option Addr) (n c : Nat) (hl : l.map Nq.x = X.l) (hn : n = l.length) (hm : ImR (.slice a n c) l w) (hw : ∀ y ∈ l, NdW y.x) :
    Calls Tryz.prog 45 #[imV X (.slice a n c)] w fun e w' => (¬ WF X ∧ e = .returned (.tuple #[.pointer none, .int .i64 3]) ∧ Nw w w') ∨ (WF X ∧ ∃ fb mb, e = .returned (.tuple #[.pointer (some ⟨fb, 0, none⟩), .int .i64 0]) ∧ Blt X w fb mb w') := by
  obtain ⟨P, hP⟩ : ∃ P : Ending → World → Prop, P = fun e w' => (¬ WF X ∧ e = .returned (.tuple #[.pointer none, .int .i64 3]) ∧ Nw w w') ∨ (WF X ∧ ∃ fb mb, e = .returned (.tuple #[.pointer (some ⟨fb, 0, none⟩), .int .i64 0]) ∧ Blt X w fb mb w') := ⟨_, rfl⟩
  rw [← hP]
  obtain ⟨V, hV⟩ : ∃ V, w.alloc (.cells #[.int .i64 X.nodes, .int .i64 X.bytes, .int .i64 X.next, .slice a n c] 37) = V := ⟨_, rfl⟩
  have hN : Nw w V := by rw [← hV]; exact (Fr.refl _ _).alloc _
  have HI : Hid (∀ W, Nw V W → W.cell? ⟨w.heap.size, 0, none⟩ = some (.int .i64 X.nodes) ∧ W.cell? ⟨w.heap.size, 1, none⟩ = some (.int .i64 X.bytes) ∧ W.cell? ⟨w.heap.size, 2, none⟩ = some (.int .i64 X.next) ∧ W.cell? ⟨w.heap.size, 3, none⟩ = some (.slice a n c)) := fun W hW => ⟨hW.cell (by rw [← hV]; exact (rc (nh w _) 0 _ rfl).1), hW.cell (by rw [← hV]; exact (rc (nh w _) 1 _ rfl).1), hW.cell (by rw [← hV]; exact (rc (nh w _) 2 _ rfl).1), hW.cell (by rw [← hV]; exact (rc (nh w _) 3 _ rfl).1)⟩
  have HVA : Hid (Calls Tryz.prog 21 #[.agg #[.int .i64 X.nodes, .int .i64 X.bytes, .int .i64 X.next, .slice a n c]] V fun e w' => ∃ B, e = .returned (.bool B) ∧ Hid ((B = true ↔ WF X) ∧ Nw V w')) := valid_any X l a n c hl hn (hm.nw hN) hw
  have HBD : Hid (∀ W, WF X → Nw V W → Calls Tryz.prog 81 #[.agg #[.int .i64 X.nodes, .int .i64 X.bytes, .int .i64 X.next, .slice a n c]] W fun e w' => ∃ fb mb, e = .returned (.pointer (some ⟨fb, 0, none⟩)) ∧ Hid (Blt X w fb mb w')) := fun W hX hW => by
    refine Calls.mono (build_any X hX l a n c hl hn ((hm.nw hN).nw hW) hw) ?_
    rintro e w' ⟨fb, mb, rfl, L, h1, h2, h3⟩
    have := (hN.trans hW).size
    exact ⟨fb, mb, rfl, L, h1, (hN.trans hW).trans h2, fun k hk => by have := h3 k hk; omega⟩
  have HF1 : Hid (∀ W, ¬ WF X → Nw V W → P (.returned (.tuple #[.pointer none, .int .i64 3])) W) := fun W hX hW => by rw [hP]; exact .inl ⟨hX, rfl, hN.trans hW⟩
  have HF2 : Hid (∀ W fb mb, WF X → Hid (Blt X w fb mb W) → P (.returned (.tuple #[.pointer (some ⟨fb, 0, none⟩), .int .i64 0])) W) := fun W fb mb hX hB => by rw [hP]; exact .inr ⟨hX, fb, mb, rfl, hB.out⟩
  obtain ⟨i0, i1, i2, i3⟩ := HI.out V (Fr.refl _ _)
  have HV := tHid hV
  clear hP hV hN hl hn hm hw
  go_enter Tryz.func45, Tryz.ntmps45
  go_upto_region 1 with fail
  rw [HV.out]
  clear HV
  go_upto_if 6 with (first | (go_at_call 21; with_reducible refine HVA.out.mono ?_; rintro e w2 ⟨B, rfl, H2⟩))
  obtain ⟨j0, j1, j2, j3⟩ := HI.out w2 H2.out.2
  clear i0 i1 i2 i3 HI
  cases B with
  | false =>
    have HL := tHid (HF1.out w2 (fun h => by have := H2.out.1.2 h; cases this) H2.out.2)
    clear HF1 HF2 HBD HVA H2
    go_wp2_with fail
    exact HL.out
  | true =>
    have hX := H2.out.1.1 rfl
    have HXX := tHid hX
    have HB := tHid (HBD.out w2 hX H2.out.2)
    clear HF1 HBD HVA H2 hX
    go_wp2_with (first | (go_at_call 81; with_reducible refine HB.out.mono ?_; rintro e w3 ⟨fb, mb, rfl, H3⟩))
    exact HF2.out _ _ _ HXX.out H3
end Go.Proofs.YtcogkhcfpgelhaaGreat
