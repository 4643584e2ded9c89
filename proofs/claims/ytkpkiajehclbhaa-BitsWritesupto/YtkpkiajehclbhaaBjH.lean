import Derived.Test.YtkpkiajehclbhaaBjG
namespace Go.Proofs.Ytkpkiajehclbhaa
open Go.RowKit
set_option linter.unusedVariables false
theorem ws_start (w : World) : WsI w w.heap.size (w.heap.size + 1) none none 0 0 ((w.alloc (.cells #[.slice none 0 0, .int .i64 0] 46)).alloc (.cells #[.slice none 0 0] 49)) := by
  have h1 : Nw w (w.alloc (.cells #[.slice none 0 0, .int .i64 0] 46)) := (Fr.refl _ _).alloc _
  have h2 : Nw (w.alloc (.cells #[.slice none 0 0, .int .i64 0] 46)) ((w.alloc (.cells #[.slice none 0 0, .int .i64 0] 46)).alloc (.cells #[.slice none 0 0] 49)) := (Fr.refl _ _).alloc _
  have e : (w.alloc (.cells #[.slice none 0 0, .int .i64 0] 46)).heap.size = w.heap.size + 1 := by simp
  have r1 := h2.heap (new_heap w (.cells #[.slice none 0 0, .int .i64 0] 46))
  have r2 := new_heap (w.alloc (.cells #[.slice none 0 0, .int .i64 0] 46)) (.cells #[.slice none 0 0] 49)
  rw [e] at r2
  exact ⟨⟨⟨_, r1, rfl, rfl⟩, by simp, by decide⟩, ⟨⟨_, r2, rfl, rfl⟩, by simp, by decide⟩, by omega, by simp, by simp, by simp, Nat.le_refl _, by omega, by simp, by simp, h1.trans h2, by decide⟩
set_option maxHeartbeats 16000000 in
set_option maxRecDepth 100000 in
/-- BitsWrites. -/
theorem ws_walk (w : World) (vo : Value) (l : List Opn) (hl : OldO w vo l) (hll : wgt l ≤ 1000000000) : Calls Try.prog 4 #[vo] w fun e w' => e = .returned (.bool true) ∧ Nw w w' := by
  obtain ⟨P, hP⟩ : ∃ P : Ending → World → Prop, P = fun e w' => e = .returned (.bool true) ∧ Nw w w' := ⟨_, rfl⟩
  rw [← hP]
  have HL : Hid (OldO w vo l) := hl
  have HF : Hid (∀ W, Nw w W → P (.returned (.bool true)) W) := fun W hW => by rw [hP]; exact ⟨rfl, hW⟩
  obtain ⟨ao, co, rfl, hco, hco2, _⟩ := hl
  have hlen := wgt_len l
  have hM9 : l.length ≤ 1000000000 := by omega
  have HWL : Hid (∀ i, wgt (l.take i) ≤ 1000000000) := fun i => by have := wgt_le l i; omega
  have HI0 : Hid (∃ og1 og2 V n, WsI w w.heap.size (w.heap.size + 1) og1 og2 V n ((w.alloc (.cells #[.slice none 0 0, .int .i64 0] 46)).alloc (.cells #[.slice none 0 0] 49)) ∧ n ≤ 40 * wgt (l.take 0)) := ⟨_, _, _, _, ws_start w, by omega⟩
  clear hP hlen hll
  generalize hM : l.length = M at *
  have hM' : Hid (l.length = M) := hM
  clear hM
  go_enter Try.func4, Try.ntmps4
  go_upto_region 3 with fail
  generalize (w.alloc (.cells #[.slice none 0 0, .int .i64 0] 46)).alloc (.cells #[.slice none 0 0] 49) = w4 at *
  obtain ⟨wb1, hwb1⟩ : ∃ wb1, wb1 = w.heap.size := ⟨_, rfl⟩
  obtain ⟨wb2, hwb2⟩ : ∃ wb2, wb2 = w.heap.size + 1 := ⟨_, rfl⟩
  rw [← hwb2, ← hwb1] at HI0
  rw [← hwb2, ← hwb1]
  clear hwb1 hwb2
  go_wp2_with fail
  go_loopg [5] M (fun kx i wr => ∃ (I : Nat), I ≤ M ∧ M - I ≤ kx ∧ i = .int .i64 I ∧ Hid (∃ og1 og2 V n, WsI w wb1 wb2 og1 og2 V n wr ∧ n ≤ 40 * wgt (l.take I)))
  case atStart => exact ⟨0, by omega, by omega, rfl, HI0⟩
  case round =>
    obtain ⟨I, hI, hkx, rfl, HI⟩ := hrel
    clear HI0
    obtain ⟨og1, og2, V, n, hR, hnw⟩ := HI.out
    have hN0 := hR.nw
    have hn7 : n ≤ 700000000000 := by have := HWL.out I; omega
    by_cases hlt : I < M
    · obtain ⟨go, oo, t, rfl, ht, _, hop⟩ := HL.out.at I hlt
      have hwt := wgt_take l I t ht
      have HWT : Hid (n + 32 ≤ 40 * wgt (l.take (I + 1)) ∧ n + 7 + 8 * t.b.length ≤ 40 * wgt (l.take (I + 1))) := ⟨by omega, by omega⟩
      have htb : t.b.length ≤ 1000000000 := by have := HWL.out (I + 1); omega
      have y0 := (hop.nw hN0).c0
      have hz : (I : Int) < (M : Int) := by omega
      clear ht hwt hnw HWL HI
      by_cases hk0 : t.kind = 0
      · obtain ⟨er, HT⟩ := hR.put t go oo I hop hn7
        have y1 := (hop.nw hN0).c1
        have y2 := (hop.nw hN0).c2
        have y1d : wr.drew.cell? ⟨go, oo + I * 4 + 1, none⟩ = some (.int .i64 t.n) := y1
        have y2d : wr.drew.cell? ⟨go, oo + I * 4 + 2, none⟩ = some (.int .u32 t.v) := y2
        rw [hk0] at y0
        clear hR hop
        generalize t.n = tn at *
        generalize t.v = tv at *
        go_upto_region 8 with fail
        go_region_held3 (fun w' => w'.cell? ⟨go, oo + I * 4 + 2, none⟩ = some (.int .u32 tv) ∧ w'.cell? ⟨go, oo + I * 4 + 1, none⟩ = some (.int .i64 tn))
          (first | assumption | (refine ⟨?_, ?_⟩ <;> assumption))
          (first | (go_at_call 23; (with_reducible refine HT.out.mono ?_); rintro e w5 ⟨rfl, q5, q6, H5⟩) | (go_at_call 24; (with_reducible refine H5.out.mono ?_); rintro e w6 ⟨rfl, q7, q8, H6⟩))
        clear y1 y2 y1d y2d q5 q6 q7 q8
        go_upto_region 20 with fail
        obtain ⟨og1', og2', V', n', hnn, hB⟩ := (H6).out
        have HT := hB.tail
        have hn'b : n' ≤ 800000000000 := hB.nl
        have HB : Hid (n' ≤ 40 * wgt (l.take (I + 1))) := by
          show n' ≤ _
          have := HWT.out
          omega
        clear hB HL HF
        go_upto_region 22 with (first | (go_at_call 29; (with_reducible refine HT.out.mono ?_); rintro e v1 ⟨x, rfl, G1⟩) | (go_at_call 29; (with_reducible refine G1.out.mono ?_); rintro e v2 ⟨y, az, cz, rfl, z0, z1, z2, G2⟩) | (go_at_call 30; (with_reducible refine G2.out.mono ?_); rintro e v3 ⟨z, rfl, z3, G3⟩))
        have z3d : v3.drew.cell? ⟨wb2, 0, none⟩ = some (.slice az n' cz) := z3
        go_region_held3 (fun w' => w'.cell? ⟨wb2, 0, none⟩ = some (.slice az n' cz))
          (first | assumption)
          (first | (go_at_call 31; (with_reducible refine G3.out.mono ?_); rintro e v4 ⟨rfl, z4, G4⟩) | (go_at_call 18; (with_reducible refine G4.out.mono ?_); rintro e v5 ⟨rfl, z5, G5⟩) | (go_at_call 18; (with_reducible refine G5.out.mono ?_); rintro e v6 ⟨rfl, z6, G6⟩))
        go_wp2_with (first | (go_at_call 19; (with_reducible refine G6.out.mono ?_); rintro e v7 ⟨⟨r7, rfl⟩, G7⟩) | (go_at_call 18; (with_reducible refine G7.out.mono ?_); rintro e v8 ⟨rfl, G8⟩) | (go_at_call 29; (with_reducible refine G8.out.mono ?_); rintro e v9 ⟨u9, rfl, G9⟩) | (go_at_call 18; (with_reducible refine G9.out.mono ?_); rintro e v10 ⟨rfl, G10⟩))
        go_roundg (M - (I + 1))
        case measure => omega
        case rel => exact ⟨I + 1, by omega, by omega, by first | rfl | (congr 1), ⟨_, _, _, _, G10.out, HB.out⟩⟩
      by_cases hk1 : t.kind = 1
      · have HT := hR.align hn7
        rw [hk1] at y0
        clear hR hop
        go_upto_region 20 with (first | (go_at_call 25; (with_reducible refine HT.out.mono ?_); rintro e w5 ⟨⟨r5, rfl⟩, H5⟩) | (go_at_call 26; (with_reducible refine H5.out.mono ?_); rintro e w6 ⟨⟨r6, rfl⟩, H6⟩))
        obtain ⟨og1', og2', V', n', hnn, hB⟩ := (H6).out
        have HT := hB.tail
        have hn'b : n' ≤ 800000000000 := hB.nl
        have HB : Hid (n' ≤ 40 * wgt (l.take (I + 1))) := by
          show n' ≤ _
          have := HWT.out
          omega
        clear hB HL HF
        go_upto_region 22 with (first | (go_at_call 29; (with_reducible refine HT.out.mono ?_); rintro e v1 ⟨x, rfl, G1⟩) | (go_at_call 29; (with_reducible refine G1.out.mono ?_); rintro e v2 ⟨y, az, cz, rfl, z0, z1, z2, G2⟩) | (go_at_call 30; (with_reducible refine G2.out.mono ?_); rintro e v3 ⟨z, rfl, z3, G3⟩))
        have z3d : v3.drew.cell? ⟨wb2, 0, none⟩ = some (.slice az n' cz) := z3
        go_region_held3 (fun w' => w'.cell? ⟨wb2, 0, none⟩ = some (.slice az n' cz))
          (first | assumption)
          (first | (go_at_call 31; (with_reducible refine G3.out.mono ?_); rintro e v4 ⟨rfl, z4, G4⟩) | (go_at_call 18; (with_reducible refine G4.out.mono ?_); rintro e v5 ⟨rfl, z5, G5⟩) | (go_at_call 18; (with_reducible refine G5.out.mono ?_); rintro e v6 ⟨rfl, z6, G6⟩))
        go_wp2_with (first | (go_at_call 19; (with_reducible refine G6.out.mono ?_); rintro e v7 ⟨⟨r7, rfl⟩, G7⟩) | (go_at_call 18; (with_reducible refine G7.out.mono ?_); rintro e v8 ⟨rfl, G8⟩) | (go_at_call 29; (with_reducible refine G8.out.mono ?_); rintro e v9 ⟨u9, rfl, G9⟩) | (go_at_call 18; (with_reducible refine G9.out.mono ?_); rintro e v10 ⟨rfl, G10⟩))
        go_roundg (M - (I + 1))
        case measure => omega
        case rel => exact ⟨I + 1, by omega, by omega, by first | rfl | (congr 1), ⟨_, _, _, _, G10.out, HB.out⟩⟩
      by_cases hk2 : t.kind = 2
      · obtain ⟨ba, bc, hc3, hold⟩ := hop.c3
        have HT := hR.add _ t.b hold htb hn7
        have HC3 : Hid (∀ V, Nw w V → V.cell? ⟨go, oo + I * 4 + 3, none⟩ = some (.slice ba t.b.length bc)) := fun V hV => hV.cell hc3
        have y3 := HC3.out _ hN0
        rw [hk2] at y0
        clear hR hop hc3 hold
        generalize t.b.length = B at *
        go_upto_region 20 with (first | (go_at_call 9; (with_reducible refine HT.out.mono ?_); rintro e w5 ⟨gc, cc, rfl, H5⟩) | (go_at_call 27; (with_reducible refine H5.out.mono ?_); rintro e w6 ⟨⟨r6, rfl⟩, K6, H6⟩; have y6 := HC3.out _ K6.out) | (go_at_call 28; (with_reducible refine H6.out.mono ?_); rintro e w7 ⟨⟨r7, rfl⟩, K7, H7⟩; have y7 := HC3.out _ K7.out) | (go_at_call 22; (with_reducible refine H7.out.mono ?_); rintro e w8 ⟨rfl, H8⟩) | (go_at_call 19; (with_reducible refine H8.out.mono ?_); rintro e w9 ⟨⟨r9, rfl⟩, H9⟩))
        obtain ⟨og1', og2', V', n', hnn, hB⟩ := (H9).out
        have HT := hB.tail
        have hn'b : n' ≤ 800000000000 := hB.nl
        have HB : Hid (n' ≤ 40 * wgt (l.take (I + 1))) := by
          show n' ≤ _
          have := HWT.out
          omega
        clear hB HL HF
        go_upto_region 22 with (first | (go_at_call 29; (with_reducible refine HT.out.mono ?_); rintro e v1 ⟨x, rfl, G1⟩) | (go_at_call 29; (with_reducible refine G1.out.mono ?_); rintro e v2 ⟨y, az, cz, rfl, z0, z1, z2, G2⟩) | (go_at_call 30; (with_reducible refine G2.out.mono ?_); rintro e v3 ⟨z, rfl, z3, G3⟩))
        have z3d : v3.drew.cell? ⟨wb2, 0, none⟩ = some (.slice az n' cz) := z3
        go_region_held3 (fun w' => w'.cell? ⟨wb2, 0, none⟩ = some (.slice az n' cz))
          (first | assumption)
          (first | (go_at_call 31; (with_reducible refine G3.out.mono ?_); rintro e v4 ⟨rfl, z4, G4⟩) | (go_at_call 18; (with_reducible refine G4.out.mono ?_); rintro e v5 ⟨rfl, z5, G5⟩) | (go_at_call 18; (with_reducible refine G5.out.mono ?_); rintro e v6 ⟨rfl, z6, G6⟩))
        go_wp2_with (first | (go_at_call 19; (with_reducible refine G6.out.mono ?_); rintro e v7 ⟨⟨r7, rfl⟩, G7⟩) | (go_at_call 18; (with_reducible refine G7.out.mono ?_); rintro e v8 ⟨rfl, G8⟩) | (go_at_call 29; (with_reducible refine G8.out.mono ?_); rintro e v9 ⟨u9, rfl, G9⟩) | (go_at_call 18; (with_reducible refine G9.out.mono ?_); rintro e v10 ⟨rfl, G10⟩))
        go_roundg (M - (I + 1))
        case measure => omega
        case rel => exact ⟨I + 1, by omega, by omega, by first | rfl | (congr 1), ⟨_, _, _, _, G10.out, HB.out⟩⟩
      · have HR : Hid (Both w wb1 wb2 n wr) := ⟨_, _, _, _, Nat.le_refl _, hR⟩
        clear hR hop
        generalize t.kind = kd at *
        go_upto_region 20 with fail
        obtain ⟨og1', og2', V', n', hnn, hB⟩ := (HR).out
        have HT := hB.tail
        have hn'b : n' ≤ 800000000000 := hB.nl
        have HB : Hid (n' ≤ 40 * wgt (l.take (I + 1))) := by
          show n' ≤ _
          have := HWT.out
          omega
        clear hB HL HF
        go_upto_region 22 with (first | (go_at_call 29; (with_reducible refine HT.out.mono ?_); rintro e v1 ⟨x, rfl, G1⟩) | (go_at_call 29; (with_reducible refine G1.out.mono ?_); rintro e v2 ⟨y, az, cz, rfl, z0, z1, z2, G2⟩) | (go_at_call 30; (with_reducible refine G2.out.mono ?_); rintro e v3 ⟨z, rfl, z3, G3⟩))
        have z3d : v3.drew.cell? ⟨wb2, 0, none⟩ = some (.slice az n' cz) := z3
        go_region_held3 (fun w' => w'.cell? ⟨wb2, 0, none⟩ = some (.slice az n' cz))
          (first | assumption)
          (first | (go_at_call 31; (with_reducible refine G3.out.mono ?_); rintro e v4 ⟨rfl, z4, G4⟩) | (go_at_call 18; (with_reducible refine G4.out.mono ?_); rintro e v5 ⟨rfl, z5, G5⟩) | (go_at_call 18; (with_reducible refine G5.out.mono ?_); rintro e v6 ⟨rfl, z6, G6⟩))
        go_wp2_with (first | (go_at_call 19; (with_reducible refine G6.out.mono ?_); rintro e v7 ⟨⟨r7, rfl⟩, G7⟩) | (go_at_call 18; (with_reducible refine G7.out.mono ?_); rintro e v8 ⟨rfl, G8⟩) | (go_at_call 29; (with_reducible refine G8.out.mono ?_); rintro e v9 ⟨u9, rfl, G9⟩) | (go_at_call 18; (with_reducible refine G9.out.mono ?_); rintro e v10 ⟨rfl, G10⟩))
        go_roundg (M - (I + 1))
        case measure => omega
        case rel => exact ⟨I + 1, by omega, by omega, by first | rfl | (congr 1), ⟨_, _, _, _, G10.out, HB.out⟩⟩
    · have HC : Hid (Calls Try.prog 23 #[.pointer (some ⟨wb1, 0, none⟩), .int .u32 8, .int .i64 3] wr fun e w' => e = .returned (.int .i64 1) ∧ w' = wr) := bput_no 8 (by decide) 3 (by decide) wb1 wr
      have hz : ¬ (I : Int) < (M : Int) := by omega
      have HN : Hid (Nw w wr) := hN0
      clear HI hR HL HWL
      go_wp2_with (first | (go_at_call 23; (with_reducible refine HC.out.mono ?_); rintro e w5 ⟨rfl, rfl⟩))
      exact HF.out _ HN.out
end Go.Proofs.Ytkpkiajehclbhaa
