import Derived.Test.YtcogkhcfpgelhabGreatWxag
import Derived.Test.YtcogkhcfpgelhabGreatWxad
import Derived.Test.YtcogkhcfpgelhabGreatVhK
import Derived.Lib.SlKeysI
namespace Go.Proofs.YtcogkhcfpgelhabGreat
open Go.RowKit
set_option linter.unusedVariables false
set_option maxRecDepth 100000
variable {w w' W V : World}
set_option maxHeartbeats 8000000 in
theorem load_any (X : Im) (l : List Nq) (a : Option Addr) (n c : Nat) (hl : l.map Nq.x = X.l) (hn : n = l.length) (hm : ImR (.slice a n c) l w) (hw : ∀ y ∈ l, NdW y.x) :
    Calls Tryz.prog 9 #[imV X (.slice a n c)] w fun e w' => (¬ WF X ∧ e = .returned (.tuple #[.pointer none, .int .i64 3]) ∧ Nw w w') ∨ (WF X ∧ ∃ fb mb, e = .returned (.tuple #[.pointer (some ⟨fb, 0, none⟩), .int .i64 0]) ∧ Blt X w fb mb w') := by
  obtain ⟨P, hP⟩ : ∃ P : Ending → World → Prop, P = fun e w' => (¬ WF X ∧ e = .returned (.tuple #[.pointer none, .int .i64 3]) ∧ Nw w w') ∨ (WF X ∧ ∃ fb mb, e = .returned (.tuple #[.pointer (some ⟨fb, 0, none⟩), .int .i64 0]) ∧ Blt X w fb mb w') := ⟨_, rfl⟩
  rw [← hP]
  obtain ⟨V, hV⟩ : ∃ V, w.alloc (.cells #[.int .i64 X.nodes, .int .i64 X.bytes, .int .i64 X.next, .slice a n c] 24) = V := ⟨_, rfl⟩
  have hN : Nw w V := by rw [← hV]; exact (Fr.refl _ _).alloc _
  have HI : Hid (∀ W, Nw V W → W.cell? ⟨w.heap.size, 0, none⟩ = some (.int .i64 X.nodes) ∧ W.cell? ⟨w.heap.size, 1, none⟩ = some (.int .i64 X.bytes) ∧ W.cell? ⟨w.heap.size, 2, none⟩ = some (.int .i64 X.next) ∧ W.cell? ⟨w.heap.size, 3, none⟩ = some (.slice a n c)) := fun W hW => ⟨hW.cell (by rw [← hV]; exact (rc (nh w _) 0 _ rfl).1), hW.cell (by rw [← hV]; exact (rc (nh w _) 1 _ rfl).1), hW.cell (by rw [← hV]; exact (rc (nh w _) 2 _ rfl).1), hW.cell (by rw [← hV]; exact (rc (nh w _) 3 _ rfl).1)⟩
  have HVA : Hid (Calls Tryz.prog 32 #[.agg #[.int .i64 X.nodes, .int .i64 X.bytes, .int .i64 X.next, .slice a n c]] V fun e w' => ∃ B, e = .returned (.bool B) ∧ Hid ((B = true ↔ WF X) ∧ Nw V w')) := valid_any X l a n c hl hn (hm.nw hN) hw
  have HBD : Hid (∀ W, WF X → Nw V W → Calls Tryz.prog 33 #[.agg #[.int .i64 X.nodes, .int .i64 X.bytes, .int .i64 X.next, .slice a n c]] W fun e w' => ∃ fb mb, e = .returned (.pointer (some ⟨fb, 0, none⟩)) ∧ Hid (Blt X w fb mb w')) := fun W hX hW => by
    refine Calls.mono (build_any X hX l a n c hl hn ((hm.nw hN).nw hW) hw) ?_
    rintro e w' ⟨fb, mb, rfl, L, h1, h2, h3⟩
    have := (hN.trans hW).size
    exact ⟨fb, mb, rfl, L, h1, (hN.trans hW).trans h2, fun k hk => by have := h3 k hk; omega⟩
  have HF1 : Hid (∀ W, ¬ WF X → Nw V W → P (.returned (.tuple #[.pointer none, .int .i64 3])) W) := fun W hX hW => by rw [hP]; exact .inl ⟨hX, rfl, hN.trans hW⟩
  have HF2 : Hid (∀ W fb mb, WF X → Hid (Blt X w fb mb W) → P (.returned (.tuple #[.pointer (some ⟨fb, 0, none⟩), .int .i64 0])) W) := fun W fb mb hX hB => by rw [hP]; exact .inr ⟨hX, fb, mb, rfl, hB.out⟩
  obtain ⟨i0, i1, i2, i3⟩ := HI.out V (Fr.refl _ _)
  have HV := tHid hV
  clear hP hV hN hl hn hm hw
  go_enter Tryz.func9, Tryz.ntmps9
  go_upto_region 1 with fail
  rw [HV.out]
  clear HV
  go_upto_if 6 with (first | (go_at_call 32; with_reducible refine HVA.out.mono ?_; rintro e w2 ⟨B, rfl, H2⟩))
  obtain ⟨j0, j1, j2, j3⟩ := HI.out w2 H2.out.2
  clear i0 i1 i2 i3 HI
  cases B with
  | false =>
    have HL := tHid (HF1.out w2 (fun h => by have := H2.out.1.2 h; cases this) H2.out.2)
    clear HF1 HF2 HBD HVA H2
    go_wp2_with fail
    exact HL.out
  | true =>
    have hX := H2.out.1.1 rfl
    have HXX := tHid hX
    have HB := tHid (HBD.out w2 hX H2.out.2)
    clear HF1 HBD HVA H2 hX
    go_wp2_with (first | (go_at_call 33; with_reducible refine HB.out.mono ?_; rintro e w3 ⟨fb, mb, rfl, H3⟩))
    exact HF2.out _ _ _ HXX.out H3
end Go.Proofs.YtcogkhcfpgelhabGreat

namespace Go.Proofs.YtcogkhcfpgelhabGreat
open Go.RowKit Go.ChangeMaps Go.MapKept
set_option linter.unusedVariables false
set_option maxRecDepth 100000
variable {mb n : Nat} {m : Int → Option Nat} {es : List (Int × Nat)} {w w' : World}
/-! ### The keys of a map, in their order -/
theorem Mp.cov {κ ν : Type} {M : MT κ ν} {b : Nat} {m : κ → Option ν} {es : List (κ × ν)} (hM : M.Ok) (h : Mp M b m n w) (hE : Ents M m n es) : ∃ D, w.ownsMap Tryz.prog M.kt M.R b n D ∧ Maps.size D = n ∧ (∀ kl, Maps.has D kl = true ↔ ∃ x ∈ es, M.kl x.1 = kl) := by
  obtain ⟨D, h1, h2, h3⟩ := h
  have hin : ∀ x ∈ es, Maps.has D (M.kl x.1) = true := fun x hx => by
    obtain ⟨e1, e2⟩ := hE.ent x hx
    have := h3 x.1 e1
    rw [e2] at this
    exact this.2.1
  refine ⟨D, h1, h2, fun kl => ⟨fun hkl => ?_, fun ⟨x, hx, e⟩ => by rw [← e]; exact hin x hx⟩⟩
  obtain ⟨E, rfl, hp, hk⟩ := h1.entries hM.keyed
  obtain ⟨p, hpE, hpk⟩ := List.any_eq_true.1 hkl
  have hpe := WideAt.sameKey_eq hpk
  haveI : DecidableEq Lit := fun a c => Classical.propDecidable (a = c)
  have hc := cover (es.map (fun x => M.kl x.1)) (E.map Prod.fst) ?_ ?_ ?_ p.1 (List.mem_map.2 ⟨p, hpE, rfl⟩)
  · obtain ⟨x, hx, e⟩ := List.mem_map.1 hc
    exact ⟨x, hx, e.trans hpe⟩
  · have := hE.nod
    rw [List.nodup_iff_pairwise_ne, List.pairwise_map] at this ⊢
    exact this.imp_of_mem (fun {x y} hx hy hne e => hne (hM.kinj _ _ (hE.ent x hx).1 (hE.ent y hy).1 e))
  · intro kl2 hk2
    obtain ⟨x, hx, rfl⟩ := List.mem_map.1 hk2
    obtain ⟨p2, hp2, hpk2⟩ := List.any_eq_true.1 (hin x hx)
    exact List.mem_map.2 ⟨p2, hp2, WideAt.sameKey_eq hpk2⟩
  · have : E.length = n := h2
    simp only [List.length_map]; rw [this, hE.len]; exact Nat.le_refl _
theorem keys_call (mo : Option Nat) (w : World) : Calls Tryz.prog 39 #[.map mo] w fun e w' => e = .returned (.func (.func 66) #[] #[.pointer (some ⟨w.heap.size, 0, none⟩)]) ∧ w.alloc (.cells #[.map mo] 80) = w' := by
  refine (callsIn_wide (n := 5)).1 ?_
  refine (AnyZI.keys_in layKeysA Fence.wide 5 trivial rfl mo w).mono ?_
  rintro e w' ⟨rfl, rfl⟩
  exact ⟨rfl, rfl⟩
theorem sortsA (k : Nat) : AnyZI.SortsIn Tryz.prog laySortedA_ren Fence.wide k :=
  ⟨fun blk off cap ss W hH hblk hsz => callsIn_wide.2 (AnyM.slices_Sort_int laySortA blk off cap ss W hH hblk hsz),
   fun p cap W => callsIn_wide.2 (AnyM.slices_Sort_int_none laySortA p cap W)⟩
/-- Numbers in a row of one's own. -/
def KsO (w : World) (ks : List Int) (e : Ending) (w' : World) : Prop := ∃ a c, e = .returned (.slice a ks.length c) ∧ ks.length ≤ c ∧ c < 9223372036854775808 ∧ Nw w w' ∧ (ks = [] ∨ ∃ g cur, a = some ⟨g, 0, none⟩ ∧ w.heap.size ≤ g ∧ w'.heap[g]? = some (.cells cur 3) ∧ ∀ i (hi : i < ks.length), cur[i]? = some (.int .i64 ks[i]))
theorem sorted_call (h : Mp MI mb m n w) (hE : Ents MI m n es) (hs : (es.map Prod.fst).Pairwise (fun a b => a < b)) (hn : n ≤ 1000000) :
    Calls Tryz.prog 38 #[.func (.func 66) #[] #[.pointer (some ⟨w.heap.size, 0, none⟩)]] (w.alloc (.cells #[.map (some mb)] 80)) (KsO w (es.map Prod.fst)) := by
  obtain ⟨D, h1, h2, h3⟩ := h.cov miOk hE
  have hbl := h1.lt
  refine (callsIn_wide (n := 5)).1 ?_
  have hseq : SeqGives Fence.wide 2 Tryz.prog 66 #[.pointer (some ⟨w.heap.size, 0, none⟩)] encZ (fun ss => ss.Perm (intKeys D)) (Maps.size D) (w.alloc (.cells #[.map (some mb)] 80)) :=
    AnyZI.keys_gives (ρ := layKeysA_ren) { layKeysA with } Fence.wide _ trivial rfl (by omega) w.heap.size mb n D _ (by simp) (by simp) (by
      obtain ⟨E, clock, hb, Ft, hs, hD⟩ := h1
      exact ⟨E, clock, (Below.heap_alloc _ _ mb hbl).trans hb, Ft, hs, hD⟩)
  have cS := AnyZI.sorted_in laySortedA Fence.wide 5 trivial trivial trivial trivial rfl (by omega) (sortsA _) (enters_of Tryz.func65 (by kernel_rfl) rfl) 66 #[.pointer (some ⟨w.heap.size, 0, none⟩)] trivial (enters_of Tryz.func66 (by kernel_rfl) rfl) _ _ (by rw [h2]; unfold maxLen; omega) (by rw [h2]; omega) _ hseq
  refine cS.mono ?_
  rintro e w' ⟨v, ss, rfl, hS, hrow, hnil, hb⟩
  obtain ⟨E, rfl, hp, hk⟩ := h1.entries miOk.keyed
  have hperm : (es.map Prod.fst).Perm (intKeys (.map E)) := by
    refine perm_intKeys hp (fun p hp' => ?_) hE.nod (fun x => ?_)
    · obtain ⟨x, hx, e⟩ := (h3 p.1).1 (List.any_eq_true.2 ⟨p, hp', WideAt.sameKey_self (hk p hp')⟩)
      exact ⟨x.1, e.symm⟩
    · rw [h3]
      constructor
      · intro hx
        obtain ⟨y, hy, rfl⟩ := List.mem_map.1 hx
        exact ⟨y, hy, rfl⟩
      · rintro ⟨y, hy, e⟩
        have e' : (Lit.int .i64 y.1) = .int .i64 x := e
        injection e' with _ e'
        exact List.mem_map.2 ⟨y, hy, e'⟩
  have hsort : ss.mergeSort (fun x y => decide (x ≤ y)) = es.map Prod.fst := by
    refine List.Perm.eq_of_pairwise (le := fun x y => x ≤ y) (fun x y _ _ a b => Int.le_antisymm a b) ?_ (hs.imp (fun {x y} h => by omega)) ((List.mergeSort_perm _ _).trans (hS.trans hperm.symm))
    exact (List.pairwise_mergeSort (fun a b c h1 h2 => by simp at *; omega) (fun a b => by simp; omega) ss).imp (fun {x y} h => by simpa using h)
  rw [hsort] at hrow
  have hl : ss.length = (es.map Prod.fst).length := by rw [hS.length_eq, hperm.length_eq]
  have hN : Nw w w' := ⟨hb.os, hb.tape, hb.output, by have := hb.size; simp at this; omega, fun k hk _ => (hb.block k (by simp; omega)).trans ((Below.heap_alloc _ _ k hk))⟩
  rcases hrow.2 with ⟨rfl, hz⟩ | ⟨g, cap, cur, rfl, g1, g2, g3, g4, g5, g6⟩
  · have hz' : (es.map Prod.fst).length = 0 := by rw [← hl]; exact hz
    exact ⟨none, 0, by rw [hz'], by omega, by omega, hN, .inl (List.eq_nil_of_length_eq_zero hz')⟩
  · rw [hl] at g3 g6 ⊢
    refine ⟨some ⟨g, 0, none⟩, cap, rfl, g3, by unfold maxLen at g4; omega, hN, .inr ⟨g, cur, rfl, by simp at g1; omega, g2, fun i hi => ?_⟩⟩
    have : (cur.toList.take ((es.map Prod.fst).length * 1))[i]? = ((es.map Prod.fst).map encZ)[i]? := by rw [g6]
    rw [List.getElem?_take, if_pos (by omega), List.getElem?_map, List.getElem?_eq_getElem hi] at this
    simpa [encZ] using this
end Go.Proofs.YtcogkhcfpgelhabGreat

namespace Go.Proofs.YtcogkhcfpgelhabGreat
open Go.RowKit
set_option linter.unusedVariables false
set_option maxRecDepth 100000
variable {fb mb : Nat} {ot : Option Nat} {L : Int → Lay} {h : Hx} {q : Int → Option Pn} {cnt : Nat} {T : List Ac} {w w' : World} {X : Nat → Prop}
abbrev imC (h : Hx) (v : Value) : Array Value := #[.int .i64 h.nodes, .int .i64 h.bytes, .int .i64 h.next, v]
abbrev imZ : Array Value := #[.int .i64 0, .int .i64 0, .int .i64 0, .slice none 0 0]
/-- How Image stands ahead of its loop. -/
def Im0 (w : World) (h : Hx) (wx : World) : Prop := Nw w wx ∧ wx.heap[w.heap.size]? = some (.cells imZ 24) ∧ wx.heap[w.heap.size + 1]? = some (.cells (imC h (.slice none 0 0)) 24) ∧ wx.heap.size = w.heap.size + 2
theorem im0_mk (w : World) (h : Hx) (m : Nat) : Im0 w h (((w.alloc (.cells imZ 24)).drewN m).alloc (.cells (imC h (.slice none 0 0)) 24)) := by
  refine ⟨(((Fr.refl _ _).alloc _).drewN m).alloc _, ?_, ?_, by simp [World.drewN]⟩
  · have hn : Nw (w.alloc (.cells imZ 24)) (((w.alloc (.cells imZ 24)).drewN m).alloc (.cells (imC h (.slice none 0 0)) 24)) := ((Fr.refl _ _).drewN m).alloc _
    exact hn.heap (nh w _)
  · have := nh ((w.alloc (.cells imZ 24)).drewN m) (.cells (imC h (.slice none 0 0)) 24)
    have e : ((w.alloc (.cells imZ 24)).drewN m).heap.size = w.heap.size + 1 := by simp [World.drewN]
    rw [e] at this
    exact this
theorem im0_mk' (w : World) (h : Hx) : Im0 w h ((w.alloc (.cells imZ 24)).alloc (.cells (imC h (.slice none 0 0)) 24)).drew := by
  obtain ⟨a, b, c, d⟩ := im0_mk w h 0
  exact ⟨a.trans (Fr.refl _ _).drew, b, c, d⟩
/-- An inode as an image tells it. -/
def ndq (q : Int → Option Pn) (eL : Int → List (Tx × Int)) (k : Int) : Nd := match q k with
  | none => ⟨k, 0, ⟨0, 0, 0, 0, 0⟩, [], [], []⟩
  | some p => ⟨k, p.kind, p.mt, p.data, p.tgt, eL k⟩
def ImH (q : Int → Option Pn) (eL : Int → List (Tx × Int)) : Prop := ∀ k p, q k = some p → (p.kind = 1 → Ents ME p.ents p.ne (eL k) ∧ p.ne ≤ 1000000) ∧ (p.kind ≠ 1 → eL k = []) ∧ (eL k).Pairwise (fun x y => lt x.1 y.1 = true) ∧ p.data.length ≤ 4194304
theorem list_any (hS : SortC) {eL : Int → List (Tx × Int)} (hI : ImH q eL) (H : FsH fb mb ot L h q cnt T w) {k : Int} {p : Pn} (hq : q k = some p) : Calls Tryz.prog 41 #[.pointer (some ⟨(L k).ib, 0, none⟩)] w (LstO w (eL k)) := by
  obtain ⟨h1, h2, h3, _⟩ := hI k p hq
  by_cases hk : p.kind = 1
  · exact list_dir hS H hq hk _ (h1 hk).1 h3 (h1 hk).2
  · rw [h2 hk]; exact list_other hS H hq hk
/-- How Image's loop stands. -/
def ImL (w : World) (h : Hx) (g : Nat) (cur : Array Value) (N : List Nd) (a : Option Addr) (c I : Nat) (wr : World) : Prop := Nw w wr ∧ wr.heap[w.heap.size]? = some (.cells imZ 24) ∧ wr.heap[w.heap.size + 1]? = some (.cells (imC h (.slice a I c)) 24) ∧ wr.heap[g]? = some (.cells cur 3) ∧ ∃ l, ImI w (.slice a I c) l wr ∧ l.map Nq.x = N ∧ l.length = I
/-- One more inode, and the list put back. -/
theorem iml_push {g : Nat} {cur : Array Value} {N : List Nd} {a : Option Addr} {c I : Nat} {wr w6 : World} (H : ImL w h g cur N a c I wr) (hI : I ≤ 1000000000) (f : Nw wr w6) (y : Nq) (hy : NqI w y w6) (h0 : w.heap.size + 2 ≤ g) :
    ∃ a' c' W, (∀ ty, (appV #[22, 22] ty #[.slice a I c, .slice (some ⟨w6.heap.size, 0, none⟩) 1 1]).run Tryz.prog (w6.alloc (.cells (RNq.enc y).toArray 44)) = .ok (.slice a' (I + 1) c') W) ∧ W.cell? ⟨w.heap.size + 1, 3, none⟩ = some (.slice a I c) ∧ W.frozen? ⟨w.heap.size + 1, 3, none⟩ = false ∧ ImL w h g cur (N ++ [y.x]) a' c' (I + 1) (W.setCell ⟨w.heap.size + 1, 3, none⟩ (.slice a' (I + 1) c')) ∧ Fr (fun k => w.heap.size ≤ k ∧ tg w6 k = some 44) w6 W := by
  obtain ⟨k1, k2, k3, k4, l, k5, k6, k7⟩ := H
  subst k7
  obtain ⟨a', c', W, r1, r2, r3⟩ := (k5.nw f).push hI y hy
  have t2 := tg_cells (f.heap k2)
  have t3 := tg_cells (f.heap k3)
  have t4 := tg_cells (f.heap k4)
  have n2 : ¬ (w.heap.size ≤ w.heap.size ∧ tg w6 w.heap.size = some 44) := fun e => by rw [t2] at e; exact absurd e.2 (by decide)
  have n3 : ¬ (w.heap.size ≤ w.heap.size + 1 ∧ tg w6 (w.heap.size + 1) = some 44) := fun e => by rw [t3] at e; exact absurd e.2 (by decide)
  have n4 : ¬ (w.heap.size ≤ g ∧ tg w6 g = some 44) := fun e => by rw [t4] at e; exact absurd e.2 (by decide)
  have m2 := r3.heap (f.heap k2) n2
  have m3 := r3.heap (f.heap k3) n3
  have m4 := r3.heap (f.heap k4) n4
  have fs : Fr (fun k => k = w.heap.size + 1) W (W.setCell ⟨w.heap.size + 1, 3, none⟩ (.slice a' (l.length + 1) c')) := (Fr.refl (fun k => k = w.heap.size + 1) W).setCell ⟨w.heap.size + 1, 3, none⟩ _ (.inl rfl)
  have hNW : Nw w W := (k1.trans f).then r3 (fun i hi => .inr hi.1)
  have tW := tg_cells m3
  refine ⟨a', c', W, r1, (rc m3 3 _ rfl).1, (rc m3 3 _ rfl).2, ⟨hNW.then fs (fun i hi => .inr (by omega)), fs.heap m2 (by omega), rset m3 3 _, fs.heap m4 (by omega), l ++ [y], ?_, by rw [List.map_append, k6]; rfl, by simp⟩, r3⟩
  obtain ⟨q1, ⟨og, q2, q3⟩, q4⟩ := r2
  refine ⟨hNW.then fs (fun i hi => .inr (by omega)), ⟨og, q2.kept fs (fun g' hg' e => ?_), q3⟩, fun z hz => ?_⟩
  · have := ogr_tg q2 g' hg'
    rw [e, tW] at this; exact absurd this (by decide)
  · obtain ⟨⟨od, z1, z2⟩, oe, z3, z4⟩ := q4 z hz
    refine ⟨⟨od, z1.kept fs (fun g' hg' e => ?_), z2⟩, oe, z3.kept fs (fun g' hg' e => ?_), z4⟩
    · rw [hg'] at z1
      have := z1.tg
      rw [e, tW] at this; exact absurd this (by decide)
    · have := ogr_tg z3 g' hg'
      rw [e, tW] at this; exact absurd this (by decide)
end Go.Proofs.YtcogkhcfpgelhabGreat
