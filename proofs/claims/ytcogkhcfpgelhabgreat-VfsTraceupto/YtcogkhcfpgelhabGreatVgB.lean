import Derived.Test.YtcogkhcfpgelhabGreatVgA
namespace Go.Proofs.YtcogkhcfpgelhabGreat
open Go.RowKit
set_option linter.unusedVariables false
set_option maxRecDepth 100000
variable {w : World}
abbrev rootP : Pn := ⟨1, ⟨0, 0, 0, 0, 0⟩, [], [], fun _ => none, 0, 1, 1⟩
def rootQ (k : Int) : Option Pn := if k = 1 then some rootP else none
/-- A file system that is new. -/
def NewFs (nodes bytes : Int) (w : World) (fb mb : Nat) (w' : World) : Prop := ∃ L, FsH fb mb none L ⟨nodes, bytes, 0, 2⟩ rootQ 1 [] w' ∧ Nw w w' ∧ ∀ k, Bk fb mb none L rootQ k → w.heap.size ≤ k
/-- How build's first loop stands. -/
def Bl1 (V2 : World) (fb mb : Nat) (nodes bytes : Int) (I : Nat) (wr : World) : Prop := match I with
  | 0 => Nw V2 wr
  | _ => ∃ ib, BR fb mb ib nodes bytes (.map none) 0 0 wr ∧ Fr (fun k => k = mb ∨ k = fb) V2 wr ∧ V2.heap.size ≤ ib
/-- How its second loop stands. -/
def Bl2 (V2 : World) (fb mb ib : Nat) (nodes bytes : Int) (I : Nat) (wr : World) : Prop := match I with
  | 0 => BR fb mb ib nodes bytes (.map none) 0 0 wr ∧ Fr (fun k => k = mb ∨ k = fb ∨ k = ib) V2 wr
  | _ => ∃ eb, BR fb mb ib nodes bytes (.map (some eb)) 1 1 wr ∧ Mp ME eb (fun _ => none) 0 wr ∧ V2.heap.size ≤ eb ∧ Fr (fun k => k = mb ∨ k = fb ∨ k = ib) V2 wr
theorem BR.setI {fb mb ib : Nat} {nodes bytes : Int} {ev : Value} {lk up : Int} {w : World} (h : BR fb mb ib nodes bytes ev lk up w) {ev' : Value} {lk' up' : Int} (j : Nat) (v : Value) (hs : (rtN ev lk up).setIfInBounds j v = rtN ev' lk' up') : BR fb mb ib nodes bytes ev' lk' up' (w.setCell ⟨ib, j, none⟩ v) ∧ Fr (fun k => k = ib) w (w.setCell ⟨ib, j, none⟩ v) := by
  have f : Fr (fun k => k = ib) w (w.setCell ⟨ib, j, none⟩ v) := (Fr.refl (fun k => k = ib) w).setCell ⟨ib, j, none⟩ _ (.inl rfl)
  have t1 := tg_cells h.nd
  refine ⟨⟨f.heap h.hd (fun e => ?_), h.mp.kept f (fun e => ?_), ?_⟩, f⟩
  · rw [← e, tg_cells h.hd] at t1; cases t1
  · rw [← e, h.mp.tg] at t1; cases t1
  · have := rset h.nd j v
    rw [hs] at this
    exact this
theorem br_fs {fb mb ib eb : Nat} {nodes bytes : Int} (h : BR fb mb ib nodes bytes (.map (some eb)) 1 1 w) (hE : Mp ME eb (fun _ => none) 0 w) (hne : eb ≠ mb) : FsH fb mb none (fun _ => ⟨ib, eb, none⟩) ⟨nodes, bytes, 0, 2⟩ rootQ 1 [] w := by
  have hq : ∀ k p, rootQ k = some p → k = 1 ∧ p = rootP := fun k p hp => by
    unfold rootQ at hp
    split at hp
    · injection hp with hp; exact ⟨by assumption, hp.symm⟩
    · cases hp
  refine ⟨⟨.slice none 0 0, h.hd, ⟨rfl, rfl⟩⟩, h.mp.cong (fun k _ => ?_), fun k p hp => ?_, fun k k' p p' hp hp' hkk => ?_, fun k p hp hk => hne⟩
  · unfold rootQ rtI
    by_cases hk : k = 1 <;> simp [hk]
  · obtain ⟨rfl, rfl⟩ := hq k p hp
    exact ⟨.slice none 0 0, .map (some eb), h.nd, ⟨rfl, rfl⟩, fun _ => ⟨rfl, hE⟩, fun hk => absurd rfl hk⟩
  · exact absurd ((hq k p hp).1.trans (hq k' p' hp').1.symm) hkk
set_option maxHeartbeats 16000000 in
theorem build_root (nodes bytes : Int) (lb : Nat) (hlb : w.heap[lb]? = some (.cells rootC 44)) : Calls Tryz.prog 33 #[.agg #[.int .i64 nodes, .int .i64 bytes, .int .i64 2, .slice (some ⟨lb, 0, none⟩) 1 1]] w fun e w' => ∃ fb mb, e = .returned (.pointer (some ⟨fb, 0, none⟩)) ∧ NewFs nodes bytes w fb mb w' := by
  obtain ⟨P, hP⟩ : ∃ P : Ending → World → Prop, P = fun e w' => ∃ fb mb, e = .returned (.pointer (some ⟨fb, 0, none⟩)) ∧ NewFs nodes bytes w fb mb w' := ⟨_, rfl⟩
  rw [← hP]
  obtain ⟨V, hV⟩ : ∃ V, V = w.alloc (.cells #[.int .i64 nodes, .int .i64 bytes, .int .i64 2, .slice (some ⟨lb, 0, none⟩) 1 1] 24) := ⟨_, rfl⟩
  have hN : Nw w V := by rw [hV]; exact (Fr.refl _ _).alloc _
  have hm1 : (Instr.makeMap 80 (some (.int .i64 1))).run Tryz.prog V.drew = .ok (.map (some V.heap.size)) (V.alloc (.map #[] 0)).drew := mkMap_hint miOk 1 V.drew
  have hI : V.heap[w.heap.size]? = some (.cells #[.int .i64 nodes, .int .i64 bytes, .int .i64 2, .slice (some ⟨lb, 0, none⟩) 1 1] 24) := by rw [hV]; exact nh _ _
  have i0 := (rc hI 0 _ rfl).1
  have i1 := (rc hI 1 _ rfl).1
  have i2 := (rc hI 2 _ rfl).1
  have i3 := (rc hI 3 _ rfl).1
  have hsz : w.heap.size < V.heap.size := by rw [hV]; simp
  have hne : ¬ w.heap.size = V.heap.size := by omega
  obtain ⟨V2, hV2⟩ : ∃ V2, V2 = ((V.alloc (.map #[] 0)).alloc (.cells #[.map (some V.heap.size), .int .i64 nodes, .int .i64 bytes, .int .i64 0, .int .i64 2, .slice none 0 0] 82)).drew := ⟨_, rfl⟩
  obtain ⟨mb, hmb⟩ : ∃ mb, mb = V.heap.size := ⟨_, rfl⟩
  obtain ⟨fb, hfb⟩ : ∃ fb, fb = V.heap.size + 1 := ⟨_, rfl⟩
  have hN2 : Nw V V2 := by rw [hV2]; exact (((Fr.refl _ _).alloc _).alloc _).drew
  have hH : V2.heap[fb]? = some (.cells (rtH mb nodes bytes) 82) := by
    rw [hV2, hfb, hmb]
    have e : (V.alloc (.map #[] 0)).heap.size = V.heap.size + 1 := by simp
    rw [← e]
    exact nh (V.alloc (.map #[] 0)) (.cells (rtH V.heap.size nodes bytes) 82)
  have hM : Mp MI mb (fun _ => none) 0 V2 := by
    rw [hV2, hmb]
    exact (Mp.made V).nw (((Fr.refl _ _).alloc _).drew)
  have hs2 : V2.heap.size = V.heap.size + 2 := by rw [hV2]; simp
  have HIm : Hid (∀ W, Fr (fun k => mb ≤ k) V2 W → W.cell? ⟨w.heap.size, 3, none⟩ = some (.slice (some ⟨lb, 0, none⟩) 1 1) ∧ ∀ j v, rootC[j]? = some v → W.cell? ⟨lb, j, none⟩ = some v) := fun W hW => by
    have hlw := blt hlb
    refine ⟨hW.cellv (hN2.cell i3) (by show ¬ mb ≤ w.heap.size; omega), fun j v hv => ?_⟩
    exact (rc (hW.heap (hN2.heap (hN.heap hlb)) (by omega)) j v hv).1
  have HH := tHid hH
  have HM := tHid hM
  have HLo : Hid (w.heap.size < mb ∧ mb < fb ∧ fb < V2.heap.size) := by
    show _ ∧ _
    omega
  have HFin : Hid (∀ ib eb wr, BR fb mb ib nodes bytes (.map (some eb)) 1 1 wr → Mp ME eb (fun _ => none) 0 wr → V2.heap.size ≤ eb → V2.heap.size ≤ ib → Fr (fun k => k = mb ∨ k = fb ∨ k = ib) V2 wr → P (.returned (.pointer (some ⟨fb, 0, none⟩))) wr) := fun ib eb wr h1 h2 h3 h4 h5 => by
    rw [hP]
    refine ⟨fb, mb, rfl, _, br_fs h1 h2 (by omega), (hN.trans hN2).then h5 (fun i hi => .inr (by omega)), fun k hk => ?_⟩
    rcases hk with rfl | rfl | hk | ⟨n, p, hp, hk⟩
    · omega
    · omega
    · cases hk
    · rcases hk with e | ⟨_, e⟩ | hk
      · have e : k = ib := e
        omega
      · have e : k = eb := e
        omega
      · cases hk
  have HB : Hid (∀ W, Calls Tryz.prog 40 #[.slice none 0 0] W fun e w' => e = .returned (.slice none 0 0) ∧ W = w') := bcl_nil
  have HW := tHid hV
  have HW2 := tHid hV2
  have HW3 := tHid hmb
  have HW4 := tHid hfb
  clear hV hV2 hmb hfb hP hH hM hlb hI hN hN2 hs2
  go_enter Tryz.func33, Tryz.ntmps33
  go_upto_region 1 with fail
  rw [← HW.out]
  clear HW
  go_region
  rw [← HW2.out, ← HW4.out, ← HW3.out]
  clear hm1 i0 i1 i2 i3 HW2 HW3 HW4 hsz hne
  generalize w.heap.size = im at *
  have j3 := (HIm.out V2 (Fr.refl _ _)).1
  go_wp2_with fail
  clear j3
  go_loopg [25] 1 (fun kx i wr => ∃ I : Nat, I ≤ 1 ∧ 1 - I ≤ kx ∧ i = .int .i64 I ∧ Hid (Bl1 V2 fb mb nodes bytes I wr))
  case atStart => exact ⟨0, by omega, by omega, rfl, Fr.refl _ _⟩
  case round =>
    obtain ⟨I, hI, hkx, rfl, HR⟩ := hrel
    by_cases hI0 : I = 0
    · subst hI0
      have hNr : Nw V2 wr := HR.out
      obtain ⟨i3, hc⟩ := HIm.out wr hNr.any
      have c0 := hc 0 _ rfl
      have c1 := hc 1 _ rfl
      have c2 := hc 2 _ rfl
      have c3 := hc 3 _ rfl
      have c4 := hc 4 _ rfl
      have c5 := hc 5 _ rfl
      have c6 := hc 6 _ rfl
      have c7 := hc 7 _ rfl
      have c8 := hc 8 _ rfl
      have c9 := hc 9 _ rfl
      obtain ⟨V3, hV3⟩ : ∃ V3, V3 = wr.alloc (.cells rootC 44) := ⟨_, rfl⟩
      have hN3 : Nw wr V3 := by rw [hV3]; exact (Fr.refl _ _).alloc _
      have hn3 : V3.heap[wr.heap.size]? = some (.cells rootC 44) := by rw [hV3]; exact nh _ _
      obtain ⟨nb, hnb⟩ : ∃ nb, nb = wr.heap.size := ⟨_, rfl⟩
      rw [← hnb] at hn3
      have hH3 := (hNr.trans hN3).heap HH.out
      obtain ⟨W, r1, r2, r3⟩ := BR.made (w := V3.drew) hH3 ((HM.out.nw hNr).nw hN3.drew)
      have r1' : (Instr.mapUpdate 80 (.map (some mb)) (.int .i64 1) (.pointer (some ⟨V3.heap.size, 0, none⟩))).run Tryz.prog (V3.alloc (.cells (rtN (.map none) 0 0) 91)).drew = .ok () W := r1
      obtain ⟨SS, hSS⟩ : ∃ SS : World → Prop, SS = fun U => U.cell? ⟨fb, 0, none⟩ = some (.map (some mb)) ∧ U.cell? ⟨nb, 0, none⟩ = some (.int .i64 1) ∧ U.cell? ⟨nb, 1, none⟩ = some (.int .i64 1) ∧ U.cell? ⟨nb, 2, none⟩ = some (.int .u32 0) ∧ U.cell? ⟨nb, 3, none⟩ = some (.int .u32 0) ∧ U.cell? ⟨nb, 4, none⟩ = some (.int .u32 0) ∧ U.cell? ⟨nb, 5, none⟩ = some (.int .i64 0) ∧ U.cell? ⟨nb, 6, none⟩ = some (.int .i32 0) ∧ U.cell? ⟨nb, 7, none⟩ = some (.slice none 0 0) ∧ U.cell? ⟨nb, 8, none⟩ = some (.string ⟨#[]⟩) := ⟨_, rfl⟩
      have hSof : ∀ U, U.heap[fb]? = some (.cells (rtH mb nodes bytes) 82) → U.heap[nb]? = some (.cells rootC 44) → SS U := fun U h1 h2 => by
        rw [hSS]
        exact ⟨(rc h1 0 _ rfl).1, (rc h2 0 _ rfl).1, (rc h2 1 _ rfl).1, (rc h2 2 _ rfl).1, (rc h2 3 _ rfl).1, (rc h2 4 _ rfl).1, (rc h2 5 _ rfl).1, (rc h2 6 _ rfl).1, (rc h2 7 _ rfl).1, (rc h2 8 _ rfl).1⟩
      have hnmb : nb ≠ mb := by have := HLo.out; have := hNr.size; omega
      have hnW : W.heap[nb]? = some (.cells rootC 44) := r3.heap hn3 hnmb
      have HSA : Hid (SS V3) := hSof V3 hH3 hn3
      have HSB : Hid (SS V3.drew) := hSof V3.drew hH3 hn3
      have HSC : Hid (∀ o, SS (V3.alloc o).drew) := fun o => hSof _ (Nw.heap ((Fr.refl _ _).alloc o) hH3) (Nw.heap ((Fr.refl _ _).alloc o) hn3)
      have HSD : Hid (SS W) := hSof W r2.hd hnW
      rw [hSS] at HSA HSB HSC HSD
      have y3 := (rc r2.hd 3 _ rfl).1
      have g3 := (rc r2.hd 3 (.int .i64 0) rfl).2
      have y7 := (rc hnW 7 _ rfl).1
      obtain ⟨W6, hW6⟩ : ∃ W6, W.drew.setCell ⟨fb, 3, none⟩ (.int .i64 0) = W6 := ⟨_, rfl⟩
      have HN6 : Hid (Bl1 V2 fb mb nodes bytes 1 W6) := by
        show ∃ ib, _
        have f6 : Fr (fun k => k = fb) W W6 := by rw [← hW6]; exact ((Fr.refl (fun k => k = fb) W).drew).setCell ⟨fb, 3, none⟩ _ (.inl rfl)
        have t1 := tg_cells r2.hd
        have e3 : V3.drew.heap.size = V3.heap.size := rfl
        have hs3 := hN3.size
        have hsr := hNr.size
        refine ⟨V3.heap.size, ⟨?_, r2.mp.kept f6 (fun e => ?_), f6.heap r2.nd (fun e => ?_)⟩, ?_, by omega⟩
        · rw [← hW6]
          have := rset (w := W.drew) r2.hd 3 (.int .i64 0)
          rw [this]; rfl
        · rw [← e, r2.mp.tg] at t1; cases t1
        · have h9 := tg_cells r2.nd
          rw [show V3.drew.heap.size = fb from e, t1] at h9; cases h9
        · have fa : Fr (fun k => k = mb ∨ k = fb) V2 V3.drew := (hNr.any.trans hN3.any).trans (Fr.refl _ _).drew
          exact (fa.trans (r3.mono (fun i e => .inl (.inl e)))).trans (f6.mono (fun i e => .inl (.inr e)))
      have HW3 := tHid hV3
      have HW4 := tHid hnb
      clear hc hSS hSof r1 r2 r3 hV3 hN3 hn3 hH3 hnW HR hNr HH HM HIm HFin hnb
      clear SS
      unfold rootC at HW3
      unfold rtN at r1'
      go_upto_region 5 with fail
      rw [← HW3.out, ← HW4.out]
      clear HW3 HW4 c0 c1 c2 c3 c4 c5 c6 c7 c8 c9 i3
      go_region_held3 (fun U => U.cell? ⟨fb, 0, none⟩ = some (.map (some mb)) ∧ U.cell? ⟨nb, 0, none⟩ = some (.int .i64 1) ∧ U.cell? ⟨nb, 1, none⟩ = some (.int .i64 1) ∧ U.cell? ⟨nb, 2, none⟩ = some (.int .u32 0) ∧ U.cell? ⟨nb, 3, none⟩ = some (.int .u32 0) ∧ U.cell? ⟨nb, 4, none⟩ = some (.int .u32 0) ∧ U.cell? ⟨nb, 5, none⟩ = some (.int .i64 0) ∧ U.cell? ⟨nb, 6, none⟩ = some (.int .i32 0) ∧ U.cell? ⟨nb, 7, none⟩ = some (.slice none 0 0) ∧ U.cell? ⟨nb, 8, none⟩ = some (.string ⟨#[]⟩))
        (first | exact HSA.out | exact HSB.out | exact HSC.out _ | exact HSD.out)
        (first | (go_at_call 40; with_reducible refine (HB.out _).mono ?_; rintro e w5 ⟨rfl, rfl⟩))
      go_wp2_with fail
      go_region
      go_wp2_with fail
      go_roundg 0
      case measure => omega
      case rel => exact ⟨1, by omega, by omega, by first | rfl | (congr 1), HN6⟩
    · obtain rfl : I = 1 := by omega
      obtain ⟨ib, hB1, hF1, hib⟩ := (HR.out : ∃ ib, _)
      have HB2 : Hid (Bl2 V2 fb mb ib nodes bytes 0 wr) := ⟨hB1, hF1.mono (fun i e => .inl (e.imp id .inl))⟩
      have HIb := tHid hib
      have j3 := (HIm.out wr (hF1.mono (fun i e => .inl (by have := HLo.out; omega)))).1
      clear HR hB1 hF1 HB HH HM hib hkx hI0
      go_wp2_with fail
      clear j3
      go_loopg [60] 1 (fun kx i wr => ∃ I : Nat, I ≤ 1 ∧ 1 - I ≤ kx ∧ i = .int .i64 I ∧ Hid (Bl2 V2 fb mb ib nodes bytes I wr))
      case atStart => exact ⟨0, by omega, by omega, rfl, HB2⟩
      case round =>
        clear HB2 hI
        obtain ⟨I, hI, hkx, rfl, HR⟩ := hrel
        by_cases hI0 : I = 0
        · subst hI0
          obtain ⟨hB1, hF1⟩ := (HR.out : _ ∧ _)
          obtain ⟨i3, hc⟩ := HIm.out _ (hF1.mono (fun i e => .inl (by have := HLo.out; have := HIb.out; omega)))
          have c0 := hc 0 _ rfl
          have c1 := hc 1 _ rfl
          have c2 := hc 2 _ rfl
          have c3 := hc 3 _ rfl
          have c4 := hc 4 _ rfl
          have c5 := hc 5 _ rfl
          have c6 := hc 6 _ rfl
          have c7 := hc 7 _ rfl
          have c8 := hc 8 _ rfl
          have c9 := hc 9 _ rfl
          obtain ⟨V4, hV4⟩ : ∃ V4, V4 = wr.alloc (.cells rootC 44) := ⟨_, rfl⟩
          have hN4 : Nw wr V4 := by rw [hV4]; exact (Fr.refl _ _).alloc _
          have hn4 : V4.heap[wr.heap.size]? = some (.cells rootC 44) := by rw [hV4]; exact nh _ _
          obtain ⟨nb, hnb⟩ : ∃ nb, nb = wr.heap.size := ⟨_, rfl⟩
          rw [← hnb] at hn4
          have hB4 := hB1.nw hN4
          have f0 := (rc hB4.hd 0 _ rfl).1
          have n0 := (rc hn4 0 _ rfl).1
          have n1 := (rc hn4 1 _ rfl).1
          have n9 := (rc hn4 9 _ rfl).1
          have hm4 : (Instr.makeMap 89 (some (.int .i64 0))).run Tryz.prog V4.drew = .ok (.map (some V4.heap.size)) (V4.alloc (.map #[] 0)).drew := mkMap_hint meOk 0 V4.drew
          have l4 : (Instr.lookup 80 (.map (some mb)) (.int .i64 1) false).run Tryz.prog V4.drew = .ok (.pointer (some ⟨ib, 0, none⟩)) V4.drew := (hB4.nw ((Fr.refl _ _).drew)).look
          have hN5 : Nw V4 (V4.alloc (.map #[] 0)).drew := ((Fr.refl _ _).alloc _).drew
          have hB5 := hB4.nw hN5
          have l5 := hB5.look
          have hE5 : Mp ME V4.heap.size (fun _ => none) 0 (V4.alloc (.map #[] 0)).drew := (Mp.made V4).nw ((Fr.refl _ _).drew)
          have hn5 := hN5.heap hn4
          obtain ⟨V5, hV5⟩ : ∃ V5, V5 = (V4.alloc (.map #[] 0)).drew := ⟨_, rfl⟩
          rw [← hV5] at hm4 hB5 l5 hE5 hn5
          have f05 := (rc hB5.hd 0 _ rfl).1
          have n05 := (rc hn5 0 _ rfl).1
          have n95 := (rc hn5 9 _ rfl).1
          have x8 := (rc hB5.nd 8 _ rfl).1
          have g8 := (rc hB5.nd 8 (.map none) rfl).2
          obtain ⟨hB6, hF6⟩ := hB5.setI (ev' := .map (some V4.heap.size)) (lk' := 0) (up' := 0) 8 (.map (some V4.heap.size)) rfl
          obtain ⟨W5, hW5⟩ : ∃ W5, V5.setCell ⟨ib, 8, none⟩ (.map (some V4.heap.size)) = W5 := ⟨_, rfl⟩
          rw [hW5] at hB6 hF6
          have hibl := blt hB1.nd
          have hn6 := hF6.heap hn5 (by omega)
          have o0 := (rc hn6 0 _ rfl).1
          have o9 := (rc hn6 9 _ rfl).1
          have p0 := (rc hB6.hd 0 _ rfl).1
          have l6 : (Instr.lookup 80 (.map (some mb)) (.int .i64 1) false).run Tryz.prog W5.drew = .ok (.pointer (some ⟨ib, 0, none⟩)) W5.drew := (hB6.nw ((Fr.refl _ _).drew)).look
          have q9 := (rc hB6.nd 9 _ rfl).1
          have r9 := (rc hB6.nd 9 (.int .i64 0) rfl).2
          have qa := (rc hB6.nd 10 _ rfl).1
          have ra := (rc hB6.nd 10 (.int .i64 0) rfl).2
          obtain ⟨hB7, hF7⟩ := (hB6.nw ((Fr.refl _ W5).drew)).setI (ev' := .map (some V4.heap.size)) (lk' := 1) (up' := 0) 9 (.int .i64 1) rfl
          obtain ⟨W7, hW7⟩ : ∃ W7, W5.drew.setCell ⟨ib, 9, none⟩ (.int .i64 1) = W7 := ⟨_, rfl⟩
          rw [hW7] at hB7 hF7
          have sa := (rc hB7.nd 10 _ rfl).1
          have ta := (rc hB7.nd 10 (.int .i64 0) rfl).2
          obtain ⟨hB8, hF8⟩ := hB7.setI (ev' := .map (some V4.heap.size)) (lk' := 1) (up' := 1) 10 (.int .i64 1) rfl
          obtain ⟨W8, hW8⟩ : ∃ W8, W7.setCell ⟨ib, 10, none⟩ (.int .i64 1) = W8 := ⟨_, rfl⟩
          rw [hW8] at hB8 hF8
          have HN8 : Hid (Bl2 V2 fb mb ib nodes bytes 1 W8) := by
            show ∃ eb, _
            have hs4 := hN4.size
            have hs1 := hF1.size
            have hne : V4.heap.size ≠ ib := by omega
            refine ⟨V4.heap.size, hB8, ((hE5.kept hF6 hne).nw ((Fr.refl _ _).drew) |>.kept hF7 hne).kept hF8 hne, by omega, ?_⟩
            have fa : Fr (fun k => k = mb ∨ k = fb ∨ k = ib) V2 V5 := by rw [hV5]; exact (hF1.trans hN4.any).trans hN5.any
            exact (((fa.trans (hF6.mono (fun i e => .inl (.inr (.inr e))))).trans (Fr.refl _ _).drew).trans (hF7.mono (fun i e => .inl (.inr (.inr e))))).trans (hF8.mono (fun i e => .inl (.inr (.inr e))))
          have HS4 : Hid (V4.cell? ⟨fb, 0, none⟩ = some (.map (some mb)) ∧ V4.cell? ⟨nb, 0, none⟩ = some (.int .i64 1) ∧ V4.cell? ⟨nb, 9, none⟩ = some (.slice none 0 0) ∧ (Instr.lookup 80 (.map (some mb)) (.int .i64 1) false).run Tryz.prog V4 = .ok (.pointer (some ⟨ib, 0, none⟩)) V4) := ⟨f0, n0, n9, hB4.look⟩
          have HS4d : Hid (V4.drew.cell? ⟨fb, 0, none⟩ = some (.map (some mb)) ∧ V4.drew.cell? ⟨nb, 0, none⟩ = some (.int .i64 1) ∧ V4.drew.cell? ⟨nb, 9, none⟩ = some (.slice none 0 0) ∧ (Instr.lookup 80 (.map (some mb)) (.int .i64 1) false).run Tryz.prog V4.drew = .ok (.pointer (some ⟨ib, 0, none⟩)) V4.drew) := ⟨f0, n0, n9, l4⟩
          have HS5 : Hid (V5.cell? ⟨fb, 0, none⟩ = some (.map (some mb)) ∧ V5.cell? ⟨nb, 0, none⟩ = some (.int .i64 1) ∧ V5.cell? ⟨nb, 9, none⟩ = some (.slice none 0 0) ∧ (Instr.lookup 80 (.map (some mb)) (.int .i64 1) false).run Tryz.prog V5 = .ok (.pointer (some ⟨ib, 0, none⟩)) V5) := ⟨f05, n05, n95, l5⟩
          have HS6 : Hid (W5.cell? ⟨fb, 0, none⟩ = some (.map (some mb)) ∧ W5.cell? ⟨nb, 0, none⟩ = some (.int .i64 1) ∧ W5.cell? ⟨nb, 9, none⟩ = some (.slice none 0 0) ∧ (Instr.lookup 80 (.map (some mb)) (.int .i64 1) false).run Tryz.prog W5 = .ok (.pointer (some ⟨ib, 0, none⟩)) W5) := ⟨p0, o0, o9, hB6.look⟩
          have HT5 : Hid (W5.cell? ⟨fb, 0, none⟩ = some (.map (some mb)) ∧ (Instr.lookup 80 (.map (some mb)) (.int .i64 1) false).run Tryz.prog W5 = .ok (.pointer (some ⟨ib, 0, none⟩)) W5) := ⟨p0, hB6.look⟩
          have HT5d : Hid (W5.drew.cell? ⟨fb, 0, none⟩ = some (.map (some mb)) ∧ (Instr.lookup 80 (.map (some mb)) (.int .i64 1) false).run Tryz.prog W5.drew = .ok (.pointer (some ⟨ib, 0, none⟩)) W5.drew) := ⟨p0, l6⟩
          have HT7 : Hid (W7.cell? ⟨fb, 0, none⟩ = some (.map (some mb)) ∧ (Instr.lookup 80 (.map (some mb)) (.int .i64 1) false).run Tryz.prog W7 = .ok (.pointer (some ⟨ib, 0, none⟩)) W7) := ⟨(rc hB7.hd 0 _ rfl).1, hB7.look⟩
          have HT8 : Hid (W8.cell? ⟨fb, 0, none⟩ = some (.map (some mb)) ∧ (Instr.lookup 80 (.map (some mb)) (.int .i64 1) false).run Tryz.prog W8 = .ok (.pointer (some ⟨ib, 0, none⟩)) W8) := ⟨(rc hB8.hd 0 _ rfl).1, hB8.look⟩
          have HV4 := tHid hV4
          have HNB := tHid hnb
          have hV5' := hV5.symm
          have hnib : ¬ nb = ib := by omega
          have hnib2 : ¬ ib = nb := by omega
          have hnl : ¬ nb = V4.heap.size := by have := blt hn4; omega
          have hnf : ¬ fb = V4.heap.size := by have := blt hB4.hd; omega
          have hni : ¬ ib = V4.heap.size := by have := blt hB4.nd; omega
          clear hc hV4 hN4 hn4 hnb hB4 hN5 hB5 hE5 hn5 hV5 hB6 hF6 hibl hn6 hB7 hF7 hB8 hF8 HR hB1 hF1 HIm HFin
          unfold rootC at HV4
          go_upto_region 11 with fail
          rw [← HV4.out, ← HNB.out]
          clear HV4 HNB c0 c1 c2 c3 c4 c5 c6 c7 c8 c9 i3
          go_upto_region 12 with fail
          go_cut [79] (fun v wx => W5 = wx)
          case first =>
            clear HLo HIb hkx hI hnib hnib2 hnl hnf hni hW7 hW8 HN8 o0 o9 p0 l6 q9 r9 qa ra sa ta
            go_region_held3 (fun U => U.cell? ⟨fb, 0, none⟩ = some (.map (some mb)) ∧ U.cell? ⟨nb, 0, none⟩ = some (.int .i64 1) ∧ U.cell? ⟨nb, 9, none⟩ = some (.slice none 0 0) ∧ (Instr.lookup 80 (.map (some mb)) (.int .i64 1) false).run Tryz.prog U = .ok (.pointer (some ⟨ib, 0, none⟩)) U)
              (first | exact HS4.out | exact HS4d.out | exact HS5.out | exact HS6.out)
              (fail)
            all_goals go_wp2_with fail
            all_goals go_meet
            all_goals rfl
          case rest =>
          obtain rfl := hcut
          clear f0 n0 n1 n9 hm4 l4 l5 hV5' x8 g8 hW5 f05 n05 n95 HS4 HS4d HS5 HS6
          go_wp2_with fail
          go_loopg [83] 0 (fun kx i wx => i = .int .i64 0 ∧ wx = W5)
          case atStart => exact ⟨rfl, rfl⟩
          case round =>
            obtain ⟨rfl, rfl⟩ := hrel
            go_upto_region 19 with fail
            clear HLo HIb hI hnib hnib2 hnl hnf hni o0 o9
            go_region_held3 (fun U => U.cell? ⟨fb, 0, none⟩ = some (.map (some mb)) ∧ (Instr.lookup 80 (.map (some mb)) (.int .i64 1) false).run Tryz.prog U = .ok (.pointer (some ⟨ib, 0, none⟩)) U)
              (first | exact HT5.out | exact HT5d.out | exact HT7.out | exact HT8.out)
              (fail)
            all_goals go_wp2_with fail
            all_goals go_roundg 0
            all_goals first
              | exact ⟨1, by omega, by omega, by first | rfl | (congr 1), HN8⟩
              | omega
        · obtain rfl : I = 1 := by omega
          obtain ⟨eb, h1, h2, h3, h4⟩ := (HR.out : ∃ eb, _)
          have HF := tHid (HFin.out ib eb _ h1 h2 h3 HIb.out h4)
          clear HR h1 h2 h3 h4 HFin HIm
          go_wp2_with fail
          exact HF.out
end Go.Proofs.YtcogkhcfpgelhabGreat
