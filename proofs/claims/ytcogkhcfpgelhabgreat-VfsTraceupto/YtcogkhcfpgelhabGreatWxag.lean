import Derived.Test.YtcogkhcfpgelhabGreatWxae
namespace Go.Proofs.YtcogkhcfpgelhabGreat
open Go.RowKit
set_option linter.unusedVariables false
set_option maxRecDepth 100000
variable {w w' W V : World}
/-- A file system of an image that can be, made since. -/
def Blt (X : Im) (w : World) (fb mb : Nat) (w' : World) : Prop := ∃ L, FsH fb mb none L (hOf X) (qOf X.l) X.l.length [] w' ∧ Nw w w' ∧ ∀ k, Bk fb mb none L (qOf X.l) k → w.heap.size ≤ k
theorem ba_start (X : Im) (V : World) : BA V X (V.heap.size + 1) V.heap.size 0 0 ((V.alloc (.map #[] 0)).alloc (.cells #[.map (some V.heap.size), .int .i64 X.nodes, .int .i64 X.bytes, .int .i64 0, .int .i64 X.next, .slice none 0 0] 82)).drew := by
  have e : (V.alloc (.map #[] 0)).heap.size = V.heap.size + 1 := by simp
  refine ⟨(((Fr.refl _ _).alloc _).alloc _).drew, fun _ => ⟨0, 0, none⟩, ⟨?_, ?_, fun k p hp => ?_, fun k k' p p' hp => ?_, fun k p hp => ?_⟩, fun k hk => ?_⟩
  · rw [← e]
    exact nh (V.alloc (.map #[] 0)) (.cells #[.map (some V.heap.size), .int .i64 X.nodes, .int .i64 X.bytes, .int .i64 0, .int .i64 X.next, .slice none 0 0] 82)
  · exact ((Mp.made V).nw (((Fr.refl _ _).alloc _).drew)).cong (fun k _ => by simp [q1, get])
  · simp [q1, get] at hp
  · simp [q1, get] at hp
  · simp [q1, get] at hp
  · rcases hk with rfl | rfl | ⟨n, p, hp, hk⟩
    · omega
    · omega
    · simp [q1, get] at hp
set_option maxHeartbeats 32000000 in
theorem build_any (X : Im) (hX : WF X) (l : List Nq) (a : Option Addr) (n c : Nat) (hl : l.map Nq.x = X.l) (hn : n = l.length) (hm : ImR (.slice a n c) l w) (hw : ∀ y ∈ l, NdW y.x) :
    Calls Tryz.prog 33 #[imV X (.slice a n c)] w fun e w' => ∃ fb mb, e = .returned (.pointer (some ⟨fb, 0, none⟩)) ∧ Blt X w fb mb w' := by
  obtain ⟨P, hP⟩ : ∃ P : Ending → World → Prop, P = fun e w' => ∃ fb mb, e = .returned (.pointer (some ⟨fb, 0, none⟩)) ∧ Blt X w fb mb w' := ⟨_, rfl⟩
  rw [← hP]
  obtain ⟨V, hV⟩ : ∃ V, w.alloc (.cells #[.int .i64 X.nodes, .int .i64 X.bytes, .int .i64 X.next, .slice a n c] 24) = V := ⟨_, rfl⟩
  have hN : Nw w V := by rw [← hV]; exact (Fr.refl _ _).alloc _
  have hm1 : (Instr.makeMap 80 (some (.int .i64 n))).run Tryz.prog V.drew = .ok (.map (some V.heap.size)) (V.alloc (.map #[] 0)).drew := mkMap_hint miOk n V.drew
  have HI : Hid (∀ W, Nw V W → W.cell? ⟨w.heap.size, 0, none⟩ = some (.int .i64 X.nodes) ∧ W.cell? ⟨w.heap.size, 1, none⟩ = some (.int .i64 X.bytes) ∧ W.cell? ⟨w.heap.size, 2, none⟩ = some (.int .i64 X.next) ∧ W.cell? ⟨w.heap.size, 3, none⟩ = some (.slice a n c)) := fun W hW => ⟨hW.cell (by rw [← hV]; exact (rc (nh w _) 0 _ rfl).1), hW.cell (by rw [← hV]; exact (rc (nh w _) 1 _ rfl).1), hW.cell (by rw [← hV]; exact (rc (nh w _) 2 _ rfl).1), hW.cell (by rw [← hV]; exact (rc (nh w _) 3 _ rfl).1)⟩
  have HM : Hid (∀ W, Nw V W → ImR (.slice a n c) l W) := fun W hW => (hm.nw hN).nw hW
  have hsz : w.heap.size < V.heap.size := by rw [← hV]; simp
  have hne : ¬ w.heap.size = V.heap.size := by omega
  have hB0 := ba_start X V
  obtain ⟨V2, hV2⟩ : ∃ V2, ((V.alloc (.map #[] 0)).alloc (.cells #[.map (some V.heap.size), .int .i64 X.nodes, .int .i64 X.bytes, .int .i64 0, .int .i64 X.next, .slice none 0 0] 82)).drew = V2 := ⟨_, rfl⟩
  obtain ⟨mb, hmb⟩ : ∃ mb, V.heap.size = mb := ⟨_, rfl⟩
  obtain ⟨fb, hfb⟩ : ∃ fb, V.heap.size + 1 = fb := ⟨_, rfl⟩
  rw [hV2, hfb] at hB0
  rw [hmb] at hB0
  have HB0 := tHid hB0
  have HFin : Hid (∀ W, Nw V W → (∃ L, FsH fb mb none L (hOf X) (qOf X.l) X.l.length [] W ∧ ∀ k, Bk fb mb none L (qOf X.l) k → V.heap.size ≤ k) → P (.returned (.pointer (some ⟨fb, 0, none⟩))) W) := fun W h1 h2 => by
    obtain ⟨L, h3, h4⟩ := h2
    rw [hP]
    exact ⟨fb, mb, rfl, L, h3, hN.trans h1, fun k hk => by have := h4 k hk; omega⟩
  have hlen : X.l.length = n := by rw [← hl, List.length_map, hn]
  have HXI : Hid (∀ I (hI : I < l.length), X.l[I]? = some (l[I]).x) := fun I hI => by rw [← hl, List.getElem?_map, List.getElem?_eq_getElem hI]; rfl
  obtain ⟨i0, i1, i2, i3⟩ := HI.out V (Fr.refl _ _)
  have HV := tHid hV
  have HV2 := tHid hV2
  have HMB := tHid hmb
  have HFB := tHid hfb
  have HXX := tHid hX
  have HNN := tHid hn
  have HLN := tHid hlen
  have HWW := tHid hw
  have hn4 : n ≤ 4096 := by have := hX.len; have := hX.n2; omega
  have HN4 := tHid hn4
  clear hV hV2 hmb hfb hP hB0 hN hm hX hn hlen hw hl hn4
  go_enter Tryz.func33, Tryz.ntmps33
  go_upto_region 1 with fail
  rw [HV.out]
  clear HV
  go_region
  rw [HV2.out, HFB.out, HMB.out]
  clear hm1 i0 i1 i2 i3 HV2 HFB HMB hsz hne
  have j3 := (HI.out V2 HB0.out.1).2.2.2
  go_wp2_with fail
  clear j3
  go_loopg [25] n (fun kx i wr => ∃ I : Nat, I ≤ n ∧ n - I ≤ kx ∧ i = .int .i64 I ∧ Hid (BA V X fb mb (heldF (X.l.take I)) I wr))
  case atStart => exact ⟨0, by omega, by omega, rfl, HB0⟩
  case round =>
    clear HB0
    obtain ⟨I, hI, hkx, rfl, HR⟩ := hrel
    by_cases hlt : I < n
    · have hIl : I < l.length := by rw [← HNN.out]; exact hlt
      obtain ⟨g, o, rfl, hc⟩ := (HM.out wr HR.out.1).at I hIl
      obtain ⟨y, hy⟩ : ∃ y, l[I] = y := ⟨_, rfl⟩
      have hxI := HXI.out I hIl
      rw [hy] at hc hxI
      have hmy : y ∈ l := by rw [← hy]; exact List.getElem_mem hIl
      obtain ⟨c0, c1, c2, c3, c4, c5, c6, c7, c8, c9⟩ := hc
      have hry : NqR y wr := (HM.out wr HR.out.1).2 y hmy
      have hwy := HWW.out y hmy
      have hht := held_take hxI
      obtain ⟨H, hH⟩ : ∃ H, heldF (X.l.take I) = H := ⟨_, rfl⟩
      obtain ⟨H2, hH2⟩ : ∃ H2, heldF (X.l.take (I + 1)) = H2 := ⟨_, rfl⟩
      have hdl : y.x.data.length ≤ 4194304 := (HXX.out.kinds y.x (List.mem_of_getElem? hxI)).len
      have hheld : heldF (X.l.take (I + 1)) ≤ 4194304 := by
        have h1 : heldF (X.l.take (I + 1)) ≤ heldF X.l := by
          conv => rhs; rw [← List.take_append_drop (I + 1) X.l]
          rw [heldF_sum, heldF_sum, sumF_append]
          omega
        have h2 := HXX.out.held
        have h3 := HXX.out.b2
        omega
      have hBA := HR.out
      rw [hH] at hBA
      obtain ⟨V3, hV3⟩ : ∃ V3, wr.alloc (.cells (nqC y) 44) = V3 := ⟨_, rfl⟩
      have hN3 : Nw wr V3 := by rw [← hV3]; exact (Fr.refl _ _).alloc _
      have hs3 : V3.heap.size = wr.heap.size + 1 := by rw [← hV3]; simp
      have hd := NqC.made wr y
      rw [hV3] at hd
      have hfb0 : wr.cell? ⟨fb, 0, none⟩ = some (.map (some mb)) := (ba_held (H2 := 0) hBA).2.2.2
      have HD : Hid (∀ U, Nw V3 U → U.cell? ⟨fb, 0, none⟩ = some (.map (some mb)) ∧ U.cell? ⟨wr.heap.size, 0, none⟩ = some (.int .i64 y.x.num) ∧ U.cell? ⟨wr.heap.size, 1, none⟩ = some (.int .i64 y.x.kind) ∧ U.cell? ⟨wr.heap.size, 2, none⟩ = some (.int .u32 y.x.mt.mode) ∧ U.cell? ⟨wr.heap.size, 3, none⟩ = some (.int .u32 y.x.mt.uid) ∧ U.cell? ⟨wr.heap.size, 4, none⟩ = some (.int .u32 y.x.mt.gid) ∧ U.cell? ⟨wr.heap.size, 5, none⟩ = some (.int .i64 y.x.mt.time) ∧ U.cell? ⟨wr.heap.size, 6, none⟩ = some (.int .i32 y.x.mt.nano) ∧ U.cell? ⟨wr.heap.size, 7, none⟩ = some (.slice y.d.a y.d.n y.d.c) ∧ U.cell? ⟨wr.heap.size, 8, none⟩ = some (.string (mk y.x.tgt))) := fun U hU => by
        obtain ⟨z0, z1, z2, z3, z4, z5, z6, z7, z8, z9⟩ := hd.nw hU
        exact ⟨hU.cell (hN3.cell hfb0), z0, z1, z2, z3, z4, z5, z6, z7, z8⟩
      have HCL : Hid (∀ U, Nw V3 U → Calls Tryz.prog 40 #[.slice y.d.a y.d.n y.d.c] U fun e w5 => ∃ a5 c5, e = .returned (.slice a5 y.d.n c5) ∧ Hid (Nw V3 w5 ∧ ∃ od, OgB od (.slice a5 y.d.n c5) y.x.data w5 ∧ ∀ g, od = some g → wr.heap.size < g)) := fun U hU => by
        refine Calls.mono (bcl_any U y.d.a y.d.n y.d.c y.x.data hry.dn.1 ((hry.nw hN3).nw hU).1 hwy.dl) ?_
        rintro e w5 ⟨a5, c5, od, rfl, o1, o2, o3⟩
        have := hU.size
        exact ⟨a5, c5, rfl, hU.trans o2, od, o1, fun g hg => by have := o3 g hg; omega⟩
      have HMU : Hid (∀ a5 c5 w5, Hid (Nw V3 w5 ∧ ∃ od, OgB od (.slice a5 y.d.n c5) y.x.data w5 ∧ ∀ g, od = some g → wr.heap.size < g) → ∃ W, (Instr.mapUpdate 80 (.map (some mb)) (.int .i64 y.x.num) (.pointer (some ⟨w5.heap.size, 0, none⟩))).run Tryz.prog (w5.alloc (.cells #[.int .i64 y.x.kind, .int .u32 y.x.mt.mode, .int .u32 y.x.mt.uid, .int .u32 y.x.mt.gid, .int .i64 y.x.mt.time, .int .i32 y.x.mt.nano, .slice a5 y.d.n c5, .string (mk y.x.tgt), .map none, .int .i64 0, .int .i64 0] 91)) = .ok () W ∧ Hid (W.cell? ⟨fb, 0, none⟩ = some (.map (some mb)) ∧ W.cell? ⟨wr.heap.size, 0, none⟩ = some (.int .i64 y.x.num) ∧ W.cell? ⟨wr.heap.size, 1, none⟩ = some (.int .i64 y.x.kind) ∧ W.cell? ⟨wr.heap.size, 2, none⟩ = some (.int .u32 y.x.mt.mode) ∧ W.cell? ⟨wr.heap.size, 3, none⟩ = some (.int .u32 y.x.mt.uid) ∧ W.cell? ⟨wr.heap.size, 4, none⟩ = some (.int .u32 y.x.mt.gid) ∧ W.cell? ⟨wr.heap.size, 5, none⟩ = some (.int .i64 y.x.mt.time) ∧ W.cell? ⟨wr.heap.size, 6, none⟩ = some (.int .i32 y.x.mt.nano) ∧ W.cell? ⟨wr.heap.size, 7, none⟩ = some (.slice y.d.a y.d.n y.d.c) ∧ W.cell? ⟨wr.heap.size, 8, none⟩ = some (.string (mk y.x.tgt))) ∧ W.cell? ⟨fb, 3, none⟩ = some (.int .i64 H) ∧ W.frozen? ⟨fb, 3, none⟩ = false ∧ W.cell? ⟨wr.heap.size, 7, none⟩ = some (.slice y.d.a y.d.n y.d.c) ∧ Hid (BA V X fb mb H2 (I + 1) (W.drew.setCell ⟨fb, 3, none⟩ (.int .i64 H2)))) := fun a5 c5 w5 h5 => by
        obtain ⟨k1, od, k2, k3⟩ := h5.out
        obtain ⟨W, r1, r2, r3⟩ := ba_step hBA HXX.out.srt (by have := HN4.out; omega) hxI hwy.n64 (by rw [hV3]; exact k1) k2 k3
        obtain ⟨q1, q2, q3, q4⟩ := ba_held (H2 := H2) r2
        exact ⟨W, r1, ⟨q4, (rc r3 0 _ rfl).1, (rc r3 1 _ rfl).1, (rc r3 2 _ rfl).1, (rc r3 3 _ rfl).1, (rc r3 4 _ rfl).1, (rc r3 5 _ rfl).1, (rc r3 6 _ rfl).1, (rc r3 7 _ rfl).1, (rc r3 8 _ rfl).1⟩, q2, q3, (rc r3 7 _ rfl).1, q1⟩
      have hsw : IntKind.i64.wrap ((H : Int) + (y.d.n : Int)) = (H2 : Int) := by
        have := hry.dn.1
        rw [IntKind.wrap_i64]; omega
      have hlt2 : (I : Int) < (n : Int) := by omega
      have hltd := decide_eq_true hlt2
      have hltn := decide_eq_true hlt
      have zwj : IntKind.i64.wrap ((I : Int) + 1) = (I : Int) + 1 := by rw [IntKind.wrap_i64]; have := HN4.out; omega
      have HV3 := tHid hV3
      have HH2 := tHid hH2
      unfold nqC at HV3
      clear hIl hy hxI hmy hry hwy hht hH hH2 hdl hheld hBA hV3 hN3 hs3 hd hfb0 HR HM HI HFin HXI HXX HWW
      go_upto_region 5 with fail
      rw [HV3.out]
      clear HV3 c0 c1 c2 c3 c4 c5 c6 c7 c8 c9
      generalize wr.heap.size = nb at *
      go_region_held3 (fun U => U.cell? ⟨fb, 0, none⟩ = some (.map (some mb)) ∧ U.cell? ⟨nb, 0, none⟩ = some (.int .i64 y.x.num) ∧ U.cell? ⟨nb, 1, none⟩ = some (.int .i64 y.x.kind) ∧ U.cell? ⟨nb, 2, none⟩ = some (.int .u32 y.x.mt.mode) ∧ U.cell? ⟨nb, 3, none⟩ = some (.int .u32 y.x.mt.uid) ∧ U.cell? ⟨nb, 4, none⟩ = some (.int .u32 y.x.mt.gid) ∧ U.cell? ⟨nb, 5, none⟩ = some (.int .i64 y.x.mt.time) ∧ U.cell? ⟨nb, 6, none⟩ = some (.int .i32 y.x.mt.nano) ∧ U.cell? ⟨nb, 7, none⟩ = some (.slice y.d.a y.d.n y.d.c) ∧ U.cell? ⟨nb, 8, none⟩ = some (.string (mk y.x.tgt)))
        (first | exact HD.out _ (Fr.refl _ _) | exact HD.out _ (Fr.refl _ _).drew | exact HD.out _ H5.out.1 | exact HD.out _ (H5.out.1.alloc _) | exact HS7.out)
        (first | (go_at_call 40; refine (HCL.out _ (by first | exact Fr.refl _ _ | exact (Fr.refl _ _).drew)).mono ?_; rintro e w5 ⟨a5, c5, rfl, H5⟩; obtain ⟨W7, r7, HS7, y3, g3, y7, HN7⟩ := HMU.out a5 c5 w5 H5))
      go_wp2_with fail
      go_region
      go_wp2_with fail
      go_roundg (n - (I + 1))
      case measure => omega
      case rel => exact ⟨I + 1, by omega, by omega, by first | rfl | (congr 1), by rw [HH2.out]; exact HN7⟩
    · have hIe : I = n := by omega
      have hlt2 : ¬ (I : Int) < (n : Int) := by omega
      have hltd := decide_eq_false hlt2
      have hltn := decide_eq_false hlt
      have hBA := HR.out
      rw [hIe, ← HLN.out, List.take_length] at hBA
      have HB0 := tHid (ba_bb hBA rfl)
      have j3 := (HI.out wr HB0.out.1).2.2.2
      clear HR hBA hIe
      go_wp2_with fail
      clear j3 hltd hltn hlt2
      go_loopg [60] n (fun kx i wr => ∃ I : Nat, I ≤ n ∧ n - I ≤ kx ∧ i = .int .i64 I ∧ Hid (BB V X fb mb I wr))
      case atStart => exact ⟨0, by omega, by omega, rfl, HB0⟩
      case round =>
        clear HB0 hlt hkx hI
        obtain ⟨I, hI, hkx, rfl, HR⟩ := hrel
        by_cases hlt : I < n
        · have hIl : I < l.length := by rw [← HNN.out]; exact hlt
          obtain ⟨g, o, rfl, hc⟩ := (HM.out wr HR.out.1).at I hIl
          obtain ⟨y, hy⟩ : ∃ y, l[I] = y := ⟨_, rfl⟩
          have hxI := HXI.out I hIl
          rw [hy] at hc hxI
          have hmy : y ∈ l := by rw [← hy]; exact List.getElem_mem hIl
          obtain ⟨c0, c1, c2, c3, c4, c5, c6, c7, c8, c9⟩ := hc
          have hwy := HWW.out y hmy
          obtain ⟨U, hU⟩ : ∃ U, wr.alloc (.cells (nqC y) 44) = U := ⟨_, rfl⟩
          have hNU : Nw wr U := by rw [← hU]; exact (Fr.refl _ _).alloc _
          have hd := NqC.made wr y
          rw [hU] at hd
          obtain ⟨z0, z1, z2, z3, z4, z5, z6, z7, z8, z9⟩ := hd
          simp only [Nat.zero_add] at z1 z2 z3 z4 z5 z6 z7 z8 z9
          have hry : NqR y wr := (HM.out wr HR.out.1).2 y hmy
          have hlt2 : (I : Int) < (n : Int) := by omega
          have hltd := decide_eq_true hlt2
          have hltn := decide_eq_true hlt
          have zwj : IntKind.i64.wrap ((I : Int) + 1) = (I : Int) + 1 := by rw [IntKind.wrap_i64]; have := HN4.out; omega
          have HU := tHid hU
          have HUS := tHid hU.symm
          have HXY := tHid hxI
          have HWY := tHid hwy
          have HMY := tHid hmy
          have HEN := tHid hry.en
          have hkd : y.x.kind = 1 ∨ y.x.kind ≠ 1 := by by_cases h : y.x.kind = 1; exact .inl h; exact .inr h
          have HKD := tHid hkd
          obtain ⟨nb, hnb⟩ : ∃ nb, wr.heap.size = nb := ⟨_, rfl⟩
          have HNB := tHid hnb
          rw [hnb] at z0 z1 z2 z3 z4 z5 z6 z7 z8 z9
          unfold nqC at HU
          clear hIl hy hxI hmy hwy hU hNU hry hkd hnb
          go_upto_region 11 with fail
          rw [HU.out, HNB.out]
          clear HU c0 c1 c2 c3 c4 c5 c6 c7 c8 c9
          go_upto_if 66 with fail
          go_cut [66] from 66 to 79 (fun v wx => Hid (BC V X fb mb I y 0 nb wx))
          case first =>
            rcases HKD.out with hk1 | hk1
            · obtain ⟨ib, hlk, hibl, hfbl, ⟨u8, hc8⟩, hf8, hBC, hlk5, hfb5⟩ := bb_dir HR.out HXX.out.srt HXY.out hk1 HWY.out.n64 HUS.out
              have hm4 : (Instr.makeMap 89 (some (.int .i64 y.e.n))).run Tryz.prog U.drew = .ok (.map (some U.heap.size)) (U.alloc (.map #[] 0)).drew := mkMap_hint meOk y.e.n U.drew
              obtain ⟨V5, hV5⟩ : ∃ V5, (U.alloc (.map #[] 0)).drew = V5 := ⟨_, rfl⟩
              have hN5 : Nw U V5 := by rw [← hV5]; exact ((Fr.refl _ _).alloc _).drew
              have hUs : wr.heap.size < U.heap.size := by rw [HUS.out]; simp
              have x8 := hN5.cell hc8
              have g8 : V5.frozen? ⟨ib, 8, none⟩ = false := by
                have h9 := hN5.block ib (by omega) (fun h => h)
                have : V5.frozen? ⟨ib, 8, none⟩ = U.frozen? ⟨ib, 8, none⟩ := by unfold World.frozen?; rw [h9]
                rw [this]; exact hf8
              rw [hV5] at hm4 hBC hlk5 hfb5
              obtain ⟨W5, hW5⟩ : ∃ W5, V5.setCell ⟨ib, 8, none⟩ (.map (some U.heap.size)) = W5 := ⟨_, rfl⟩
              rw [hW5] at hBC hlk5 hfb5
              rw [HNB.out] at hBC hibl hfbl hUs
              have hnode5 : W5.heap[nb]? = some (.cells (nqC y) 44) := hBC.2.1
              have HBC := tHid hBC
              have HSU : Hid (∀ Z, Nw U Z → Z.cell? ⟨fb, 0, none⟩ = some (.map (some mb)) ∧ Z.cell? ⟨nb, 0, none⟩ = some (.int .i64 y.x.num) ∧ Z.cell? ⟨nb, 9, none⟩ = some (.slice y.e.a y.e.n y.e.c) ∧ (Instr.lookup 80 (.map (some mb)) (.int .i64 y.x.num) false).run Tryz.prog Z = .ok (.pointer (some ⟨ib, 0, none⟩)) Z) := fun Z hZ => ⟨(hlk Z hZ).2, hZ.cell z0, hZ.cell z9, (hlk Z hZ).1⟩
              have HSW : Hid (W5.cell? ⟨fb, 0, none⟩ = some (.map (some mb)) ∧ W5.cell? ⟨nb, 0, none⟩ = some (.int .i64 y.x.num) ∧ W5.cell? ⟨nb, 9, none⟩ = some (.slice y.e.a y.e.n y.e.c) ∧ (Instr.lookup 80 (.map (some mb)) (.int .i64 y.x.num) false).run Tryz.prog W5 = .ok (.pointer (some ⟨ib, 0, none⟩)) W5) := ⟨hfb5, (rc hnode5 0 _ rfl).1, (rc hnode5 9 _ rfl).1, hlk5⟩
              have HN5 := tHid hN5
              have hkb : (y.x.kind == 1) = true := by rw [hk1]; rfl
              clear hk1 HR HM HI HFin HXI HXX HWW hlk hibl hfbl hc8 hf8 hBC hlk5 hfb5 hN5 hnode5 hUs HUS HKD z0 z1 z2 z3 z4 z5 z6 z7 z8 z9
              go_wp2_with fail
              go_region_held3 (fun Z => Z.cell? ⟨fb, 0, none⟩ = some (.map (some mb)) ∧ Z.cell? ⟨nb, 0, none⟩ = some (.int .i64 y.x.num) ∧ Z.cell? ⟨nb, 9, none⟩ = some (.slice y.e.a y.e.n y.e.c) ∧ (Instr.lookup 80 (.map (some mb)) (.int .i64 y.x.num) false).run Tryz.prog Z = .ok (.pointer (some ⟨ib, 0, none⟩)) Z)
                (first | exact HSU.out _ (Fr.refl _ _) | exact HSU.out _ (Fr.refl _ _).drew | exact HSU.out _ HN5.out | exact HSW.out)
                (fail)
              all_goals go_wp2_with fail
              all_goals go_meet
              all_goals exact HBC
            · have hBC := bb_file HR.out HXY.out hk1
              rw [HNB.out, ← HUS.out] at hBC
              have HBC := tHid hBC
              have hkb : (y.x.kind == 1) = false := by rw [beq_eq_false_iff_ne]; exact hk1
              clear hk1 HR HM HI HFin HXI HXX HWW hBC HUS HKD
              go_wp2_with fail
              go_meet
              exact HBC
          case rest =>
          have HB0 := hcut
          clear z0 z1 z2 z3 z4 z5 z6 z7 z8 z9 HR HUS HKD
          have hnode := HB0.out.2.1
          have t9 : wc.cell? ⟨nb, 9, none⟩ = some (.slice y.e.a y.e.n y.e.c) := (rc hnode 9 _ rfl).1
          clear hnode
          go_wp2_with fail
          clear t9
          go_loopg [83] y.e.n (fun kx i wr => ∃ J : Nat, J ≤ y.e.n ∧ y.e.n - J ≤ kx ∧ i = .int .i64 J ∧ Hid (BC V X fb mb I y J nb wr))
          case atStart => exact ⟨0, by omega, by omega, rfl, HB0⟩
          case round =>
            clear hcut HB0
            obtain ⟨J, hJ, hkx3, rfl, HR⟩ := hrel
            by_cases hltJ : J < y.e.n
            · have hJl : J < y.x.ents.length := by rw [← HEN.out.1]; exact hltJ
              obtain ⟨g2, o2, hea, _, hc⟩ := ((HM.out wr HR.out.1).2 y HMY.out).2.at J (y.x.ents[J]) (List.getElem?_eq_getElem hJl)
              have c0 : wr.cell? ⟨g2, o2 + J * 2, none⟩ = some (.string (mk (y.x.ents[J]).1)) := hc 0 _ rfl
              have c1 : wr.cell? ⟨g2, o2 + J * 2 + 1, none⟩ = some (.int .i64 (y.x.ents[J]).2) := hc 1 _ rfl
              obtain ⟨e, he⟩ : ∃ e, y.x.ents[J] = e := ⟨_, rfl⟩
              rw [he] at c0 c1
              have heJ : y.x.ents[J]? = some e := by rw [List.getElem?_eq_getElem hJl, he]
              obtain ⟨V5, hV5⟩ : ∃ V5, wr.alloc (.cells #[.string (mk e.1), .int .i64 e.2] 57) = V5 := ⟨_, rfl⟩
              have hN5 : Nw wr V5 := by rw [← hV5]; exact (Fr.refl _ _).alloc _
              have q0 : V5.cell? ⟨wr.heap.size, 0, none⟩ = some (.string (mk e.1)) := by rw [← hV5]; exact (rc (nh wr _) 0 _ rfl).1
              have q1 : V5.cell? ⟨wr.heap.size, 1, none⟩ = some (.int .i64 e.2) := by rw [← hV5]; exact (rc (nh wr _) 1 _ rfl).1
              have q2 : V5.cell? ⟨nb, 0, none⟩ = some (.int .i64 y.x.num) := hN5.cell (rc HR.out.2.1 0 _ rfl).1
              have HE : Hid (Calls Tryz.prog 56 #[.pointer (some ⟨fb, 0, none⟩), .agg #[.int .i64 y.x.num, .string (mk e.1)], .int .i64 e.2] V5 fun r w' => (∃ v, r = .returned v) ∧ Hid (BC V X fb mb I y (J + 1) nb w')) := bc_step HR.out HXX.out HXY.out heJ HWY.out (fun x hx => by
                have hlm : ∃ z ∈ l, z.x = x := by
                  obtain ⟨i, hi, e1⟩ := List.getElem_of_mem hx
                  have hil : i < l.length := by have := HLN.out; have := HNN.out; omega
                  have h9 := HXI.out i hil
                  rw [List.getElem?_eq_getElem hi, e1] at h9
                  injection h9 with h9
                  exact ⟨l[i], List.getElem_mem hil, h9.symm⟩
                obtain ⟨z, hz, rfl⟩ := hlm
                exact ⟨(HWW.out z hz).el, (HWW.out z hz).n64⟩) hN5
              have hlt2 : (J : Int) < (y.e.n : Int) := by omega
              have hltd := decide_eq_true hlt2
              have hltn := decide_eq_true hltJ
              have zwk : IntKind.i64.wrap ((J : Int) + 1) = (J : Int) + 1 := by rw [IntKind.wrap_i64]; have := HEN.out.2.1; have := HEN.out.2.2; omega
              have HV5 := tHid hV5
              have HEA := tHid hea
              clear hJl hc he heJ hV5 hN5 HR HM HI HFin HXI HXX HWW hea zwj
              rw [HEA.out]
              go_upto_region 16 with fail
              rw [HV5.out]
              clear HV5 c0 c1
              go_wp2_with (first | (go_at_call 56; with_reducible refine HE.out.mono ?_; rintro r w6 ⟨⟨v, rfl⟩, H6⟩))
              rw [← HEA.out]
              go_roundg (y.e.n - (J + 1))
              case measure => omega
              case rel => exact ⟨J + 1, by omega, by omega, by first | rfl | (congr 1), H6⟩
            · have hJe : J = y.e.n := by omega
              have hJx : J = y.x.ents.length := by rw [hJe]; exact HEN.out.1
              have hlt2 : ¬ (J : Int) < (y.e.n : Int) := by omega
              have hltd := decide_eq_false hlt2
              have hltn := decide_eq_false hltJ
              have q2 : wr.cell? ⟨nb, 0, none⟩ = some (.int .i64 y.x.num) := (rc HR.out.2.1 0 _ rfl).1
              by_cases h1 : y.x.num = 1
              · obtain ⟨ib, hlk, ⟨u9, hc9⟩, hf9, W7, hW7, hl7, hf7, ⟨ua, hca⟩, hfa, W8, hW8, hl8, hf8, hBB⟩ := bc_root HR.out HXX.out HXY.out hJx h1
                have HBB := tHid hBB
                have HSA : Hid (∀ Z, Nw wr Z → Z.cell? ⟨fb, 0, none⟩ = some (.map (some mb)) ∧ (Instr.lookup 80 (.map (some mb)) (.int .i64 1) false).run Tryz.prog Z = .ok (.pointer (some ⟨ib, 0, none⟩)) Z) := fun Z hZ => ⟨(hlk Z hZ).2, (hlk Z hZ).1⟩
                have HS7 : Hid (W7.cell? ⟨fb, 0, none⟩ = some (.map (some mb)) ∧ (Instr.lookup 80 (.map (some mb)) (.int .i64 1) false).run Tryz.prog W7 = .ok (.pointer (some ⟨ib, 0, none⟩)) W7) := ⟨hf7, hl7⟩
                have HS8 : Hid (W8.cell? ⟨fb, 0, none⟩ = some (.map (some mb)) ∧ (Instr.lookup 80 (.map (some mb)) (.int .i64 1) false).run Tryz.prog W8 = .ok (.pointer (some ⟨ib, 0, none⟩)) W8) := ⟨hf8, hl8⟩
                have hW7' := hW7.symm
                have hW8' := hW8.symm
                clear HR HM HI HFin HXI HXX HWW hlk hf7 hl7 hf8 hl8 hBB hJe hJx hW7 hW8 hltJ
                go_upto_region 19 with fail
                go_region_held3 (fun Z => Z.cell? ⟨fb, 0, none⟩ = some (.map (some mb)) ∧ (Instr.lookup 80 (.map (some mb)) (.int .i64 1) false).run Tryz.prog Z = .ok (.pointer (some ⟨ib, 0, none⟩)) Z)
                  (first | exact HSA.out _ (Fr.refl _ _) | exact HSA.out _ (Fr.refl _ _).drew | exact HS7.out | exact HS8.out)
                  (fail)
                all_goals go_wp2_with fail
                all_goals go_roundg (n - (I + 1))
                all_goals first
                  | exact ⟨I + 1, by omega, by omega, by first | rfl | (congr 1), HBB⟩
                  | omega
              · have HBB := tHid (bc_next HR.out HXX.out HXY.out hJx h1)
                have hnb1 : (y.x.num == 1) = false := by rw [beq_eq_false_iff_ne]; exact h1
                clear HR HM HI HFin HXI HXX HWW hJe hJx hltJ
                go_wp2_with fail
                go_roundg (n - (I + 1))
                case measure => omega
                case rel => exact ⟨I + 1, by omega, by omega, by first | rfl | (congr 1), HBB⟩
        · have hIe : I = n := by omega
          have hlt2 : ¬ (I : Int) < (n : Int) := by omega
          have hltd := decide_eq_false hlt2
          have hltn := decide_eq_false hlt
          obtain ⟨b1, b2⟩ := bb_fs HR.out HXX.out (by rw [hIe, HLN.out])
          have HL := tHid (HFin.out wr b1 b2)
          clear HR HM HI HFin HXI HXX HWW b1 b2 hIe
          go_wp2_with fail
          exact HL.out
end Go.Proofs.YtcogkhcfpgelhabGreat
