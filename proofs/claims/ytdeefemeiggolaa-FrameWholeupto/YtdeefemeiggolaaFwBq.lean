import Derived.Test.YtdeefemeiggolaaFwAq
import Derived.Test.YtdeefemeiggolaaFrUq
namespace Go.Proofs.Ytdeefemeiggolaa
open Go.RowKit
set_option linter.unusedVariables false
theorem Tile.at {b out : List By} {p n : Nat} {f : Fm} {gs : List Fm} (h : Tile b out p n (f :: gs)) : f.frm = p ∧ p < f.till ∧ f.till ≤ b.length ∧ n + f.size ≤ out.length ∧ fdec (tk b p (f.till - p)) f.size = (tk out n f.size, f.till - p, 0) ∧ Tile b out f.till (n + f.size) gs := h
set_option maxHeartbeats 40000000 in
set_option maxRecDepth 100000 in
theorem fw_walk (w : World) (ab : Option Addr) (cb : Nat) (b : List By) (hb : Old w (.slice ab b.length cb) b) (hbl : b.length ≤ 8000000000) :
    Calls Try.prog 8 #[.slice ab b.length cb] w fun e w' => e = .returned (.bool true) ∧ Nw w w' := by
  obtain ⟨P, hP⟩ : ∃ P : Ending → World → Prop, P = fun e w' => e = .returned (.bool true) ∧ Nw w w' := ⟨_, rfl⟩
  rw [← hP]
  have HT : Hid (∀ V, Nw w V → P (.returned (.bool true)) V) := fun V hV => by rw [hP]; exact ⟨rfl, hV⟩
  clear hP
  have HL : Hid (Calls Try.prog 21 #[] w fun e w1 => e = .returned (.bool true) ∧ ∃ g1 c1 W1, Hid (∀ ty, (Builtin.append_ #[22, 22] ty #[.slice (some ⟨w1.heap.size, 0, none⟩) 0 0, .slice ab b.length cb]).run Try.prog (w1.alloc (.cells #[] 5)) = .ok (.slice (some ⟨g1, 0, none⟩) b.length c1) W1) ∧ Hid (Calls Try.prog 15 #[.slice (some ⟨g1, 0, none⟩) b.length c1, .int .i64 4194304] W1 fun e w2 => ∃ a2 c2, e = .returned (.tuple #[.slice a2 (fdec b 4194304).1.length c2, .int .i64 (fdec b 4194304).2.1, .int .i64 (fdec b 4194304).2.2]) ∧ ∃ g3 c3 W3, Hid (∀ ty, (Builtin.append_ #[22, 22] ty #[.slice (some ⟨w2.heap.size, 0, none⟩) 0 0, .slice ab b.length cb]).run Try.prog (w2.alloc (.cells #[] 5)) = .ok (.slice (some ⟨g3, 0, none⟩) b.length c3) W3) ∧ Hid (Calls Try.prog 16 #[.slice (some ⟨g3, 0, none⟩) b.length c3, .int .i64 4194304] W3 fun e w4 => ∃ a4 n4 c4, e = .returned (.tuple #[.slice a4 n4 c4, .int .i64 (ffr b 4194304).2.1, .int .i64 (ffr b 4194304).2.2]) ∧ n4 = (ffr b 4194304).1.length ∧ Hid (Frs (ffr b 4194304).1 (.slice a4 n4 c4) W3 w4 ∧ Mine (fun k => k < w.heap.size) (.slice a2 (fdec b 4194304).1.length c2) (fdec b 4194304).1 w4 ∧ Nw w w4)))) := by
    show Calls _ _ _ _ _
    refine (lives_any w).mono ?_
    rintro e w1 ⟨rfl, hN1⟩
    refine ⟨rfl, ?_⟩
    obtain ⟨g1, c1, W1, hap1, hO1, _, hNa⟩ := copyB w1 _ b (Sl.later hb hN1) (by omega)
    refine ⟨g1, c1, W1, hap1, ?_⟩
    show Calls _ _ _ _ _
    refine (fdecode_any W1 _ b 4194304 hO1.old (by omega)).mono ?_
    rintro e w2 ⟨a2, c2, rfl, hM2, hN2⟩
    have h2 : Nw w w2 := (hN1.trans hNa).trans hN2
    refine ⟨a2, c2, rfl, ?_⟩
    obtain ⟨g3, c3, W3, hap3, hO3, _, hNb⟩ := copyB w2 _ b (Sl.later hb h2) (by omega)
    refine ⟨g3, c3, W3, hap3, ?_⟩
    show Calls _ _ _ _ _
    refine (fframes_any W3 _ b 4194304 hO3.old hbl).mono ?_
    rintro e w4 ⟨a4, n4, c4, rfl, hn4, hF4, hN4⟩
    exact ⟨a4, n4, c4, rfl, hn4, hF4, ((hM2.nw hNb).nw hN4).more (fun k hk => .inl (Nat.lt_of_lt_of_le hk (hN1.trans hNa).size)), (h2.trans hNb).trans hN4⟩
  have hfd : fdec b 4194304 = match readF b 4194304 0 [] [] with | .bad a y => ([], a, y) | .ok (out, _) => (out, b.length, 0) := by
    unfold fdec; rw [if_neg (by decide)]; rfl
  have hff : ffr b 4194304 = match readF b 4194304 0 [] [] with | .bad a y => ([], a, y) | .ok (_, fs) => (fs, b.length, 0) := by
    unfold ffr; rw [if_neg (by decide)]; rfl
  cases hr : readF b 4194304 0 [] [] with
  | bad x y =>
    rw [hr] at hfd hff
    simp only at hfd hff
    rw [hfd, hff] at HL
    simp only [List.length_nil] at HL
    have hy := readF_bad hr
    have hy' : ¬ (y : Int) = 0 := by omega
    clear hb hfd hff hr hy
    generalize b.length = L at *
    go_enter Try.func8, Try.ntmps8
    go_wp2_with (first | (go_at_call 21; with_reducible refine HL.out.mono ?_; rintro e w1 ⟨rfl, g1, c1, W1, HAP1, H2⟩) | (at_builtin; refine Lib.wpList_append_run _ rfl _ _ 22 22 rfl (.slice (some ⟨w1.heap.size, 0, none⟩) 0 0) (.slice ab L cb) (by simp [Act.eval]) (by simp [Act.eval]) _ _ (HAP1.out _) ?_) | (go_at_call 15; with_reducible refine H2.out.mono ?_; rintro e w2 ⟨a2, c2, rfl, g3, c3, W3, HAP3, H4⟩) | (at_builtin; refine Lib.wpList_append_run _ rfl _ _ 22 22 rfl (.slice (some ⟨w2.heap.size, 0, none⟩) 0 0) (.slice ab L cb) (by simp [Act.eval]) (by simp [Act.eval]) _ _ (HAP3.out _) ?_) | (go_at_call 16; with_reducible refine H4.out.mono ?_; rintro e w4 ⟨a4, n4, c4, rfl, hn4, K4⟩))
    exact HT.out _ K4.out.2.2
  | ok r =>
    obtain ⟨out, fs⟩ := r
    rw [hr] at hfd hff
    simp only at hfd hff
    rw [hfd, hff] at HL
    obtain ⟨gs, e1, _, htile⟩ := readF_tile (Nat.le_refl _) (by simp) (by simp) hr
    rw [List.nil_append] at e1
    subst e1
    rw [List.length_nil] at htile
    have hob := readF_bound (by simp) hr
    have hfl := fs_len hr (by simp) (by simp)
    have HTL : Hid (Tile b out 0 0 fs) := htile
    have HB : Hid (Old w (.slice ab b.length cb) b) := hb
    clear hb hfd hff hr htile
    simp only at HL
    obtain ⟨L, hL⟩ : ∃ L, b.length = L := ⟨_, rfl⟩
    obtain ⟨N, hN⟩ : ∃ N, out.length = N := ⟨_, rfl⟩
    obtain ⟨M, hM⟩ : ∃ M, fs.length = M := ⟨_, rfl⟩
    have HLn : Hid (b.length = L) := hL
    have HNn : Hid (out.length = N) := hN
    have HMn : Hid (fs.length = M) := hM
    rw [hL] at hbl hfl
    rw [hN] at hob
    rw [hM] at hfl
    rw [hL, hN, hM] at HL
    clear hL hN hM
    go_enter Try.func8, Try.ntmps8
    rw [HLn.out]
    go_wp2_with (first | (go_at_call 21; with_reducible refine HL.out.mono ?_; rintro e w1 ⟨rfl, g1, c1, W1, HAP1, H2⟩) | (at_builtin; refine Lib.wpList_append_run _ rfl _ _ 22 22 rfl (.slice (some ⟨w1.heap.size, 0, none⟩) 0 0) (.slice ab L cb) (by simp [Act.eval]) (by simp [Act.eval]) _ _ (HAP1.out _) ?_) | (go_at_call 15; with_reducible refine H2.out.mono ?_; rintro e w2 ⟨a2, c2, rfl, g3, c3, W3, HAP3, H4⟩) | (at_builtin; refine Lib.wpList_append_run _ rfl _ _ 22 22 rfl (.slice (some ⟨w2.heap.size, 0, none⟩) 0 0) (.slice ab L cb) (by simp [Act.eval]) (by simp [Act.eval]) _ _ (HAP3.out _) ?_) | (go_at_call 16; with_reducible refine H4.out.mono ?_; rintro e w4 ⟨a4, n4, c4, rfl, hn4, K4⟩))
    subst hn4
    have HK : Hid (Frs fs (.slice a4 n4 c4) W3 w4 ∧ Mine (fun k => k < w.heap.size) (.slice a2 N c2) out w4 ∧ Nw w w4) := K4
    clear K4 H4 H2 HL HAP1 HAP3
    go_loopg [9, 10, 11] n4 (fun kx vat vfr vi wr => ∃ (p n i : Nat), i ≤ n4 ∧ n4 - i ≤ kx ∧ vat = .int .i64 p ∧ vfr = .int .i64 n ∧ vi = .int .i64 i ∧ p ≤ L ∧ n ≤ N ∧ Hid (Tile b out p n (fs.drop i) ∧ Nw w4 wr))
    case atStart => exact ⟨0, 0, 0, by omega, by omega, rfl, rfl, rfl, by omega, by omega, HTL.out, Fr.refl _ _⟩
    case round =>
      obtain ⟨p, n, i, hi, hkx, rfl, rfl, rfl, hp, hn, HI⟩ := hrel
      clear HTL
      by_cases hlt : i < n4
      · have hz1 : (i : Int) < (n4 : Int) := by omega
        have hi' : i < fs.length := by rw [HMn.out]; exact hlt
        have htl := HI.out.1
        rw [List.drop_eq_getElem_cons hi'] at htl
        have hwr := HI.out.2
        obtain ⟨f, hf⟩ : ∃ f, fs[i] = f := ⟨_, rfl⟩
        have hfi : fs[i]? = some f := by rw [List.getElem?_eq_getElem hi', hf]
        rw [hf] at htl
        obtain ⟨t1, t2, t3, t4, t5, t6⟩ := htl.at
        obtain ⟨g, hgg, hOF⟩ : ∃ g, a4 = some ⟨g, 0, none⟩ ∧ OwF g (.slice a4 n4 c4) fs w4 := by
          rcases HK.out.1 with ⟨_, h⟩ | ⟨g, _, h⟩
          · rw [h] at hi'; simp at hi'
          · obtain ⟨c3, e3, _, _⟩ := h.form
            injection e3 with e3
            exact ⟨g, e3, h⟩
        subst hgg
        have hOr := hOF.nw hwr
        obtain ⟨frm, T, sk, us, ⟨bl, al, bs, cs, cz⟩, nb, pl, S⟩ := f
        simp only at t1 t2 t3 t4 t5 t6
        subst t1
        have x0 : wr.cell? ⟨g, i * 12, none⟩ = some (.int .i64 frm) := by rw [Nat.mul_comm i 12]; exact (hOr.cell i 0 _ _ hfi rfl).1
        have x1 : wr.cell? ⟨g, i * 12 + 1, none⟩ = some (.int .i64 T) := by rw [Nat.mul_comm i 12]; exact (hOr.cell i 1 _ _ hfi rfl).1
        have x2 : wr.cell? ⟨g, i * 12 + 2, none⟩ = some (.bool sk) := by rw [Nat.mul_comm i 12]; exact (hOr.cell i 2 _ _ hfi rfl).1
        have x3 : wr.cell? ⟨g, i * 12 + 3, none⟩ = some (.int .i64 us) := by rw [Nat.mul_comm i 12]; exact (hOr.cell i 3 _ _ hfi rfl).1
        have x4 : wr.cell? ⟨g, i * 12 + 4, none⟩ = some (.int .i64 bl) := by rw [Nat.mul_comm i 12]; exact (hOr.cell i 4 _ _ hfi rfl).1
        have x5 : wr.cell? ⟨g, i * 12 + 5, none⟩ = some (.bool al) := by rw [Nat.mul_comm i 12]; exact (hOr.cell i 5 _ _ hfi rfl).1
        have x6 : wr.cell? ⟨g, i * 12 + 6, none⟩ = some (.bool bs) := by rw [Nat.mul_comm i 12]; exact (hOr.cell i 6 _ _ hfi rfl).1
        have x7 : wr.cell? ⟨g, i * 12 + 7, none⟩ = some (.bool cs) := by rw [Nat.mul_comm i 12]; exact (hOr.cell i 7 _ _ hfi rfl).1
        have x8 : wr.cell? ⟨g, i * 12 + 8, none⟩ = some (.bool cz) := by rw [Nat.mul_comm i 12]; exact (hOr.cell i 8 _ _ hfi rfl).1
        have x9 : wr.cell? ⟨g, i * 12 + 9, none⟩ = some (.int .i64 nb) := by rw [Nat.mul_comm i 12]; exact (hOr.cell i 9 _ _ hfi rfl).1
        have x10 : wr.cell? ⟨g, i * 12 + 10, none⟩ = some (.int .i64 pl) := by rw [Nat.mul_comm i 12]; exact (hOr.cell i 10 _ _ hfi rfl).1
        have x11 : wr.cell? ⟨g, i * 12 + 11, none⟩ = some (.int .i64 S) := by rw [Nat.mul_comm i 12]; exact (hOr.cell i 11 _ _ hfi rfl).1
        obtain ⟨a0, c0, e0, hcb, hcb2, hbo⟩ := HB.out.open
        injection e0 with e1 _ e3
        subst e1
        subst e3
        have hbn : b ≠ [] := by rintro rfl; rw [List.length_nil] at t3; omega
        obtain ⟨gb, ob, rfl, hgb, hrb⟩ := hbo hbn
        have hNw : Nw w wr := HK.out.2.2.trans hwr
        obtain ⟨X2, hX2⟩ : ∃ X2, wr.alloc (.cells #[.int .i64 frm, .int .i64 T, .bool sk, .int .i64 us, .int .i64 bl, .bool al, .bool bs, .bool cs, .bool cz, .int .i64 nb, .int .i64 pl, .int .i64 S] 49) = X2 := ⟨_, rfl⟩
        have hrow : X2.heap[wr.heap.size]? = some (.cells #[.int .i64 frm, .int .i64 T, .bool sk, .int .i64 us, .int .i64 bl, .bool al, .bool bs, .bool cs, .bool cz, .int .i64 nb, .int .i64 pl, .int .i64 S] 49) := by rw [← hX2]; exact new_row _ _ _ rfl
        have hNX : Nw wr X2 := by rw [← hX2]; exact (Fr.refl _ _).alloc _
        have KEY : ∀ V, Nw X2 V → (V.cell? ⟨wr.heap.size, 0, none⟩ = some (.int .i64 frm) ∧ V.cell? ⟨wr.heap.size, 1, none⟩ = some (.int .i64 T) ∧ V.cell? ⟨wr.heap.size, 11, none⟩ = some (.int .i64 S)) := fun V hV => ⟨hV.cell (row_cell hrow 0 _ rfl).1, hV.cell (row_cell hrow 1 _ rfl).1, hV.cell (row_cell hrow 11 _ rfl).1⟩
        have HX2 : Hid (wr.alloc (.cells #[.int .i64 frm, .int .i64 T, .bool sk, .int .i64 us, .int .i64 bl, .bool al, .bool bs, .bool cs, .bool cz, .int .i64 nb, .int .i64 pl, .int .i64 S] 49) = X2) := hX2
        have htl1 : (tk b frm (T - frm)).length = T - frm := tk_length b frm (T - frm) (by omega)
        have htl2 : (tk out n S).length = S := tk_length out n S (by omega)
        have hold : Old X2.drew (.slice (some ⟨gb, ob + frm, none⟩) (tk b frm (T - frm)).length (cb - frm)) (tk b frm (T - frm)) := by
          have hV : Nw w X2.drew := (hNw.trans hNX).drew
          refine .inr ⟨gb, by have := hV.size; omega, ob + frm, cb - frm, rfl, by rw [htl1]; omega, by omega, ?_⟩
          exact Rd.nw ((hrb.drop frm).take (T - frm)) hV
        obtain ⟨g5, c5, W5, hap5, hO5, _, hN5⟩ := copyB X2.drew _ (tk b frm (T - frm)) hold (by rw [htl1]; rw [HLn.out] at t3; omega)
        have hN5' : Nw X2 W5 := ((Fr.refl _ X2).drew).trans hN5
        have hS0 := KEY _ ((Fr.refl _ X2).drew)
        have hS1 := KEY _ (((Fr.refl _ X2).drew).alloc (.cells #[] 5))
        have hS2 := KEY _ hN5'
        have hSX := KEY _ (Fr.refl _ X2)
        have HC6 : Hid (Calls Try.prog 15 #[.slice (some ⟨g5, 0, none⟩) (T - frm) c5, .int .i64 S] W5 fun e w6 => ∃ a6 c6, e = .returned (.tuple #[.slice a6 S c6, .int .i64 (T - frm : Nat), .int .i64 0]) ∧ (w6.cell? ⟨wr.heap.size, 0, none⟩ = some (.int .i64 frm) ∧ w6.cell? ⟨wr.heap.size, 1, none⟩ = some (.int .i64 T) ∧ w6.cell? ⟨wr.heap.size, 11, none⟩ = some (.int .i64 S)) ∧ Nw wr w6 ∧ (∀ k, (convert 22 9 (.slice a6 S c6)).run Try.prog (w6.drewN k) = .ok (.string (str (tk out n S))) (w6.drewN k)) ∧ (∀ k, (w6.drewN k).cell? ⟨wr.heap.size, 0, none⟩ = some (.int .i64 frm) ∧ (w6.drewN k).cell? ⟨wr.heap.size, 1, none⟩ = some (.int .i64 T) ∧ (w6.drewN k).cell? ⟨wr.heap.size, 11, none⟩ = some (.int .i64 S))) := by
          show Calls _ _ _ _ _
          have hC := fdecode_any W5 _ _ (S : Int) hO5.old (by rw [htl1]; rw [HLn.out] at t3; omega)
          rw [t5, htl1] at hC
          refine hC.mono ?_
          rintro e w6 ⟨a6, c6, rfl, hM6, hN6⟩
          simp only [htl2] at hM6 ⊢
          refine ⟨a6, c6, rfl, KEY _ (hN5'.trans hN6), hNX.trans (hN5'.trans hN6), fun k => conv_any (Sl.nw hM6.old ((Fr.refl _ _).drewN k)), fun k => KEY _ ((hN5'.trans hN6).drewN k)⟩
        rw [htl1] at hap5
        have HAP5 : Hid (∀ ty, (Builtin.append_ #[22, 22] ty #[.slice (some ⟨X2.drew.heap.size, 0, none⟩) 0 0, .slice (some ⟨gb, ob + frm, none⟩) (T - frm) (cb - frm)]).run Try.prog (X2.drew.alloc (.cells #[] 5)) = .ok (.slice (some ⟨g5, 0, none⟩) (T - frm) c5) W5) := hap5
        rw [HLn.out] at t3 hcb
        rw [HNn.out] at t4
        have HT5 : Hid (Tile b out T (n + S) (fs.drop (i + 1))) := t6
        have HNw : Hid (Nw w4 wr) := hwr
        clear hap5 hO5 hold hrb hbo hrow hX2 KEY hOr hOF hfi hf hi' htl t5 t6 hwr hNX hN5 hN5' hNw hbn htl1 htl2 HI
        obtain ⟨D, hD⟩ : ∃ D, T - frm = D := ⟨_, rfl⟩
        obtain ⟨E, hE⟩ : ∃ E, n + S = E := ⟨_, rfl⟩
        rw [hD] at HC6 HAP5
        rw [hE] at HT5 t4
        have q1 : (T : Int) - (frm : Int) = (D : Int) := by omega
        have q2 : (n : Int) + (S : Int) = (E : Int) := by omega
        have q3 : ((frm : Int) != (frm : Int)) = false := by simp
        have q4 : decide ((T : Int) ≤ (frm : Int)) = false := by simp; omega
        have q5 : decide ((L : Int) < (T : Int)) = false := by simp; omega
        have q6 : decide ((S : Int) < 0) = false := by simp
        have q7 : decide ((N : Int) < (E : Int)) = false := by simp; omega
        have q8 : (T : Int) ≤ (cb : Int) := by omega
        have q9 : (frm : Int) ≤ (T : Int) := by omega
        have q10 : T ≤ cb := by omega
        have q11 : frm ≤ T := by omega
        obtain ⟨s0, s1, s2⟩ := hSX
        have HDn : Hid (T - frm = D) := hD
        have HEn : Hid (n + S = E) := hE
        clear hD hE
        go_upto_region 12 with fail
        rw [HX2.out]
        go_upto_region 14 with fail
        have q12 : T - frm = D := HDn.out
        have q13 : ¬ cb = frm := by omega
        have q14 : X2.drew.heap.size = X2.heap.size := rfl
        rw [q14] at HAP5
        clear x0 x1 x2 x3 x4 x5 x6 x7 x8 x9 x10 x11
        go_region_held3 (fun w' => w'.cell? ⟨wr.heap.size, 0, none⟩ = some (.int .i64 frm) ∧ w'.cell? ⟨wr.heap.size, 1, none⟩ = some (.int .i64 T) ∧ w'.cell? ⟨wr.heap.size, 11, none⟩ = some (.int .i64 S))
          (first | assumption | exact ⟨s0, s1, s2⟩)
          (first
            | (refine step_append_run rfl _ _ rfl (.slice (some ⟨X2.heap.size, 0, none⟩) 0 0) (.slice (some ⟨gb, ob + frm, none⟩) D (cb - frm)) ?_ ?_ _ _ (HAP5.out) ?_; (solve | simp [Act.eval]); (solve | simp [Act.eval]))
            | (go_at_call 15; with_reducible refine (HC6.out).mono ?_; rintro e w6 ⟨a6, c6, rfl, hS6, hN6, hcv1, hS7⟩))
        clear HAP5 HC6 hS0 hS1 hS2 s0 s1 s2 q12 q13 q14 q8
        obtain ⟨s0, s1, s2⟩ := hS6
        clear hS7
        have HN6 : Hid (Nw wr w6) := hN6
        clear hN6
        have r3 : ((D : Int) != (D : Int)) = false := by simp
        have r4 : IntKind.i64.wrap ((T : Int) - (frm : Int)) = (D : Int) := by rw [IntKind.wrap_i64]; omega
        have r5 : IntKind.i64.wrap ((n : Int) + (S : Int)) = (E : Int) := by rw [IntKind.wrap_i64]; omega
        have r6 : IntKind.i64.wrap (D : Int) = (D : Int) := by rw [IntKind.wrap_i64]; omega
        have r7 : IntKind.i64.wrap (E : Int) = (E : Int) := by rw [IntKind.wrap_i64]; omega
        have r8 : (n : Int) ≤ (E : Int) := by omega
        have r9 : (0 : Int) ≤ (n : Int) := by omega
        have hlen : (tk out n S).length = S := tk_length out n S (by rw [HNn.out]; have := HEn.out; omega)
        have hE := HEn.out
        have FIN : Hid (Tile b out T E (fs.drop (i + 1)) ∧ ∀ k, Nw w4 (w6.drewN k)) := ⟨HT5.out, fun k => (HNw.out.trans HN6.out).drewN k⟩
        have b1 : T ≤ L := t3
        have b2 : E ≤ N := t4
        have hM2 : Mine (fun k => k < w.heap.size) (.slice a2 N c2) out w6 := HK.out.2.1.nw (HNw.out.trans HN6.out)
        have hMN := HNn.out
        have HMN : Hid (out.length = N) := hMN
        have key : (a2 = none ∧ N = 0 ∧ c2 = 0 ∧ n = 0 ∧ S = 0 ∧ E = 0 ∧ ∀ k, (convert 22 9 (.slice none 0 0)).run Try.prog (w6.drewN k) = .ok (.string (str (tk out n S))) (w6.drewN k)) ∨ ∃ g2, a2 = some ⟨g2, 0, none⟩ ∧ N ≤ c2 ∧ c2 < 9223372036854775808 ∧ ((c2 = n ∧ S = 0 ∧ E = n ∧ ∀ a k, (convert 22 9 (.slice a 0 0)).run Try.prog (w6.drewN k) = .ok (.string (str (tk out n S))) (w6.drewN k)) ∨ (¬ c2 = n ∧ ∀ k, (convert 22 9 (.slice (some ⟨g2, n, none⟩) S (c2 - n))).run Try.prog (w6.drewN k) = .ok (.string (str (tk out n S))) (w6.drewN k))) := by
          have hnil : ∀ a, S = 0 → ∀ k, (convert 22 9 (.slice a 0 0)).run Try.prog (w6.drewN k) = .ok (.string (str (tk out n S))) (w6.drewN k) := by
            intro a h k
            have hl0 : tk out n S = [] := List.eq_nil_of_length_eq_zero (by rw [hlen, h])
            rw [hl0]
            exact conv_any (X := fun _ => False) (.inl ⟨a, rfl, rfl⟩)
          rcases hM2 with ⟨e1, e2⟩ | ⟨g2, _, hO2⟩
          · injection e1 with e1 e3 e4
            refine .inl ⟨e1, e3, e4, by omega, by omega, by omega, hnil _ (by omega)⟩
          · obtain ⟨o2, k2, e1, e2, e3, e4⟩ := hO2.slb
            obtain ⟨xs, f1, _⟩ := hO2
            injection f1 with f1
            rw [f1] at e1
            injection e1 with e5 e6 e7
            injection e5 with e5
            injection e5 with _ e5
            subst e5 e7
            rw [HMN.out] at e2
            refine .inr ⟨g2, f1, e2, e3, ?_⟩
            by_cases hcn : c2 = n
            · exact .inl ⟨hcn, by omega, by omega, fun a => hnil a (by omega)⟩
            · refine .inr ⟨hcn, ?_⟩
              have h1 : Rd g2 (0 + n) (tk out n S) w6 := (e4.drop n).take S
              rw [Nat.zero_add] at h1
              have h2 : Sl (fun _ => False) (.slice (some ⟨g2, n, none⟩) S (c2 - n)) (tk out n S) w6 := .inr ⟨g2, fun h => h, n, c2 - n, by rw [hlen], by rw [hlen]; omega, by omega, h1⟩
              exact fun k => conv_any (Sl.nw h2 ((Fr.refl _ _).drewN k))
        clear hM2 hlen hMN HK
        generalize hstr : str (tk out n S) = sq at *
        clear hstr
        clear q1 q2
        go_upto_region 15 with fail
        rcases key with ⟨rfl, rfl, rfl, rfl, rfl, rfl, hcv2⟩ | ⟨g2, rfl, y1, y2, ⟨rfl, rfl, rfl, hcv2⟩ | ⟨y3, hcv2⟩⟩
        · go_wp2_with fail
          go_quiet (fail)
          go_wp2_with fail
          go_roundg (n4 - (i + 1))
          all_goals (first | omega | exact ⟨T, 0, i + 1, by omega, by omega, rfl, by first | rfl | (congr 1), by first | rfl | (congr 1), by omega, by omega, FIN.out.1, FIN.out.2 _⟩)
        · go_wp2_with fail
          go_quiet (fail)
          go_wp2_with fail
          go_roundg (n4 - (i + 1))
          all_goals (first | omega | exact ⟨T, _, i + 1, by omega, by omega, rfl, by first | rfl | (congr 1), by first | rfl | (congr 1), by omega, by omega, FIN.out.1, FIN.out.2 _⟩)
        · have z1 : (E : Int) ≤ (c2 : Int) := by omega
          have z2 : E - n = S := by omega
          have z3 : n ≤ c2 := by omega
          have z4 : (n : Int) ≤ (c2 : Int) := by omega
          clear hE
          go_wp2_with fail
          go_quiet (fail)
          go_wp2_with fail
          go_roundg (n4 - (i + 1))
          all_goals (first | omega | exact ⟨T, E, i + 1, by omega, by omega, rfl, by first | rfl | (congr 1), by first | rfl | (congr 1), by omega, by omega, FIN.out.1, FIN.out.2 _⟩)
      · have hin : i = n4 := by omega
        have htl := HI.out.1
        rw [List.drop_eq_nil_of_le (by rw [HMn.out]; omega)] at htl
        obtain ⟨u1, u2⟩ : p = b.length ∧ n = out.length := htl
        rw [HLn.out] at u1
        rw [HNn.out] at u2
        have HF : Hid (P (.returned (.bool true)) wr) := HT.out _ (HK.out.2.2.trans HI.out.2)
        subst u1 u2
        have hz1 : ¬ (i : Int) < (n4 : Int) := by omega
        clear HI HK HT
        go_wp2_with fail
        exact HF.out
end Go.Proofs.Ytdeefemeiggolaa
