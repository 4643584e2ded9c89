import Derived.Test.YtdeefemeiggolaaQs
import Derived.Test.YtdeefemeiggolaaQt
namespace Go.Proofs.Ytdeefemeiggolaa
open Go.RowKit
set_option linter.unusedVariables false
variable {D rb g o c : Nat} {b : List By} {most p : Nat} {out : List By} {K : Nat → Prop} {w : World}
/-- What frame answers. -/
def Frm (D rb g o c : Nat) (b : List By) (most : Nat) (K : Nat → Prop) (w : World) (fb : Nat) (r : Rz (Fm × List By)) (e : Ending) (w' : World) : Prop :=
  Fr (fun k => k = rb ∨ k = fb ∨ ¬ K k) w w' ∧ match r with
    | .bad a y => e = flt a y
    | .ok (f, out') => (∃ x, e = .returned x) ∧ RdI D rb g o c b most f.till out' K w' ∧ FB fb { f with till := 0 } w'
def fmid (p : Nat) (s : Shp) (k q n : Nat) : Fm := ⟨p, 0, false, 0, s, k, q, n⟩
/-- How the blocks stand. -/
def BIv (D rb g o c : Nat) (b : List By) (most : Nat) (K : Nat → Prop) (w : World) (fb p : Nat) (s : Shp) (began p0 : Nat) (out0 : List By) (p1 : Nat) (out1 : List By) (k q : Nat) (V : World) : Prop :=
  RdI D rb g o c b most p1 out1 K V ∧ FB fb (fmid p s k q 0) V ∧ Fr (fun k => k = rb ∨ k = fb ∨ ¬ K k) w V ∧ blocksF b most s began p1 out1 k q = blocksF b most s began p0 out0 0 0 ∧ k ≤ p1 ∧ q ≤ k ∧ began ≤ out1.length
theorem BIv.round {fb p : Nat} {s : Shp} {began p0 : Nat} {out0 : List By} {p1 : Nat} {out1 : List By} {k q : Nat} {V : World} (h : BIv D rb g o c b most K w fb p s began p0 out0 p1 out1 k q V) (hfr : fb ≠ rb) (hKf : K fb) (hDf : D ≤ fb) (hs1 : 4 ≤ s.block) (hs2 : s.block ≤ 7) :
    Calls Try.prog 76 #[.pointer (some ⟨rb, 0, none⟩), .pointer (some ⟨fb, 0, none⟩), .int .i64 began] V fun e w' =>
      (∃ a y, blocksF b most s began p0 out0 0 0 = .bad a y ∧ e = flt a y ∧ Fr (fun k => k = rb ∨ k = fb ∨ ¬ K k) w w') ∨
      (e = .returned (.bool false) ∧ blocksF b most s began p0 out0 0 0 = .ok (p1, out1, k, q) ∧ RdI D rb g o c b most (p1 + 4) out1 K w' ∧ FB fb (fmid p s k q 0) w' ∧ Fr (fun k => k = rb ∨ k = fb ∨ ¬ K k) w w' ∧ began ≤ out1.length) ∨
      (e = .returned (.bool true) ∧ ∃ p2 out2 k2 q2, p1 < p2 ∧ p2 ≤ b.length ∧ BIv D rb g o c b most K w fb p s began p0 out0 p2 out2 k2 q2 w') := by
  obtain ⟨h1, h2, h3, h4, h5, h6, h7⟩ := h
  have hbl := h1.bl
  have hpl := h1.pl
  refine (rblock_any h1 fb (fmid p s k q 0) h2 hfr hKf hDf hs1 hs2 began h7 (by show k < _; omega) (by show q < _; omega)).mono ?_
  rintro e w' ⟨hF, hr⟩
  have hF' := h3.trans hF
  show _ ∨ _ ∨ _
  rw [blocksF_eq] at h4
  have hsh : (fmid p s k q 0).shape = s := rfl
  rw [hsh] at hr
  cases hb : blockF b most s began p1 out1 with
  | bad a y =>
    rw [hb] at hr h4
    exact .inl ⟨a, y, h4.symm, hr, hF'⟩
  | fin =>
    rw [hb] at hr h4
    exact .inr (.inl ⟨hr.1, h4.symm, hr.2.1, hr.2.2, hF', h7⟩)
  | ok p2 out2 pl =>
    rw [hb] at hr h4
    obtain ⟨k1, k2, k3, x, k4⟩ := blockF_ok hb
    refine .inr (.inr ⟨hr.1, p2, out2, k + 1, if pl = true then q + 1 else q, by omega, k2, hr.2.1, hr.2.2, hF', h4, by omega, by split <;> omega, by rw [k4, List.length_append]; omega⟩)
theorem headF_size {b : List By} {p : Nat} {s : Shp} {n p1 : Nat} (h : headF b p = .ok (s, n, p1)) : n < 18446744073709551616 := by
  have h0 := headF_ok h
  unfold headF at h
  split at h
  · cases h
  split at h
  · cases h
  split at h
  · cases h
  split at h
  · cases h
  split at h
  · cases h
  split at h
  · cases h
  · injection h with h
    injection h with h5 h
    injection h with h6 h7
    subst h6
    have h10 : ∀ s, hl s ≤ 10 := fun s => by unfold hl; split <;> omega
    refine Nat.lt_of_lt_of_le (le_lt _) (Nat.le_trans (Nat.pow_le_pow_right (n := 256) (j := 8) (by decide) ?_) (by decide))
    unfold tk
    rw [List.length_take]
    exact Nat.le_trans (Nat.min_le_left _ _) (Nat.sub_le_sub_right (h10 _) 2)
/-- What the plain bytes from a place on are as a slice, not of the reader's block. -/
theorem RdI.from2 (h : RdI D rb g o c b most p out K w) (q : Nat) (hq : q ≤ out.length) : ∃ a k, w.cell? ⟨rb, 3, none⟩ = some (.slice a out.length k) ∧ ((a = none ∧ q = 0 ∧ k = 0 ∧ out = []) ∨ ∃ g2, a = some ⟨g2, 0, none⟩ ∧ q ≤ k ∧ out.length ≤ k ∧ k < 9223372036854775808 ∧ Sl (fun k => k = rb ∨ w.heap.size ≤ k) (.slice (some ⟨g2, q, none⟩) (out.length - q) (k - q)) (out.drop q) w) := by
  obtain ⟨a, k, h1, h2⟩ := h.from q hq
  refine ⟨a, k, h1, ?_⟩
  rcases h2 with h2 | ⟨g2, h2, h3, h4, h5, h6, h7, h8⟩
  · exact .inl h2
  · refine .inr ⟨g2, h2, h3, h4, h5, ?_⟩
    rcases h8 with ⟨_, e, h9⟩ | ⟨g3, h9, o3, c3, e, h10⟩
    · exact .inl ⟨_, e, h9⟩
    · injection e with e1 e2 e3
      injection e1 with e1
      injection e1 with e4 e5
      subst e4
      refine .inr ⟨g2, fun hx => ?_, o3, c3, by rw [← e5, ← e3, e2], h10⟩
      rcases hx with hx | hx
      · subst hx; exact h7 h.kr
      · exact h9 hx
set_option maxHeartbeats 16000000 in
set_option maxRecDepth 100000 in
theorem rframe_any (h : RdI D rb g o c b most (p + 4) out K w) (fb : Nat) (hf : FB fb (Fm.start p) w) (hfr : fb ≠ rb) (hKf : K fb) (hDf : D ≤ fb) :
    Calls Try.prog 64 #[.pointer (some ⟨rb, 0, none⟩), .pointer (some ⟨fb, 0, none⟩)] w (Frm D rb g o c b most K w fb (frameF b most p out)) := by
  obtain ⟨P, hP⟩ : ∃ P : Ending → World → Prop, P = Frm D rb g o c b most K w fb (frameF b most p out) := ⟨_, rfl⟩
  rw [← hP]
  have PAN : Hid (∀ a y e w', frameF b most p out = .bad a y → e = flt a y → Fr (fun k => k = rb ∨ k = fb ∨ ¬ K k) w w' → P e w') := by
    intro a y e w' h1 h2 h3
    rw [hP]
    refine ⟨h3, ?_⟩
    rw [h1]; exact h2
  have hX : ∀ k, (k = rb ∨ k = fb) → (k = rb ∨ k = fb ∨ ¬ K k) ∨ w.heap.size ≤ k := fun k hk => .inl (by rcases hk with hk | hk; exact .inl hk; exact .inr (.inl hk))
  cases hh : headF b (p + 4) with
  | bad a y =>
    have hfF : frameF b most p out = .bad a y := by unfold frameF; rw [hh]
    have HC : Hid (Calls Try.prog 75 #[.pointer (some ⟨rb, 0, none⟩), .pointer (some ⟨fb, 4, none⟩)] w fun e w1 => ∃ ch, e = .panicked ch ∧ Hid (P (.panicked ch) w1)) := by
      show Calls _ _ _ _ _
      refine (rhead_any h fb _ hf hfr hKf hDf).mono ?_
      rintro e w1 ⟨h1, h2⟩
      rw [hh] at h2
      simp only at h2
      subst h2
      exact ⟨_, rfl, PAN.out _ _ _ _ hfF rfl (h1.mono hX)⟩
    clear h hf hfF hP PAN hX
    go_enter Try.func64, Try.ntmps64
    go_wp2_with (first | (go_at_call 75; with_reducible refine HC.out.mono ?_; rintro e w1 ⟨ch, rfl, HF⟩))
    exact ⟨rfl, HF.out⟩
  | ok r =>
    obtain ⟨s, sz, p1⟩ := r
    have hok := headF_ok hh
    have hszl : sz < 18446744073709551616 := headF_size hh
    have HC : Hid (Calls Try.prog 75 #[.pointer (some ⟨rb, 0, none⟩), .pointer (some ⟨fb, 4, none⟩)] w fun e w1 => e = .returned (.int .u64 sz) ∧ (∃ a3 k3, w1.cell? ⟨rb, 3, none⟩ = some (.slice a3 out.length k3)) ∧ Hid (BIv D rb g o c b most K w fb p s out.length p1 out p1 out 0 0 w1)) := by
      show Calls _ _ _ _ _
      refine (rhead_any h fb _ hf hfr hKf hDf).mono ?_
      rintro e w1 ⟨h1, h2⟩
      rw [hh] at h2
      obtain ⟨rfl, h3, h4⟩ := h2
      obtain ⟨_, _, _, _, _, a3, k3, h5, _⟩ := h3.cells
      exact ⟨rfl, ⟨a3, k3, h5⟩, h3, h4, h1.mono hX, rfl, by omega, by omega, by omega⟩
    have BLK : Hid (∀ p2 out1 k q V, BIv D rb g o c b most K w fb p s out.length p1 out p2 out1 k q V → Hid (Calls Try.prog 76 #[.pointer (some ⟨rb, 0, none⟩), .pointer (some ⟨fb, 0, none⟩), .int .i64 out.length] V fun e w' => (∃ ch, e = .panicked ch ∧ Hid (P (.panicked ch) w')) ∨ (e = .returned (.bool false) ∧ Hid (blocksF b most s out.length p1 out 0 0 = .ok (p2, out1, k, q) ∧ RdI D rb g o c b most (p2 + 4) out1 K w' ∧ FB fb (fmid p s k q 0) w' ∧ Fr (fun k => k = rb ∨ k = fb ∨ ¬ K k) w w' ∧ out.length ≤ out1.length)) ∨ (e = .returned (.bool true) ∧ ∃ p3 out2 k2 q2, p2 < p3 ∧ p3 ≤ b.length ∧ Hid (BIv D rb g o c b most K w fb p s out.length p1 out p3 out2 k2 q2 w')))) := by
      intro p2 out1 k q V hV
      show Calls _ _ _ _ _
      refine (hV.round hfr hKf hDf hok.2.2.1 hok.2.2.2).mono ?_
      rintro e w' (⟨a, y, h1, rfl, h2⟩ | ⟨rfl, h1⟩ | ⟨rfl, p3, out2, k2, q2, h1, h2, h3⟩)
      · exact .inl ⟨_, rfl, PAN.out a y _ _ (by unfold frameF; rw [hh]; simp only; rw [h1]) rfl h2⟩
      · exact .inr (.inl ⟨rfl, h1⟩)
      · exact .inr (.inr ⟨rfl, p3, out2, k2, q2, h1, h2, h3⟩)
    have HFR : Hid (∀ p2 out1 k q, blocksF b most s out.length p1 out 0 0 = .ok (p2, out1, k, q) → frameF b most p out = if s.csize = true ∧ sz ≠ out1.length - out.length then .bad p2 45 else if s.csum = true then (if b.length < p2 + 8 then .bad b.length 4 else if le (tk b (p2 + 4) 4) ≠ sm (out1.drop out.length) then .bad (p2 + 4) 46 else .ok (⟨p, p2 + 8, false, 0, s, k, q, out1.length - out.length⟩, out1)) else .ok (⟨p, p2 + 4, false, 0, s, k, q, out1.length - out.length⟩, out1)) := by
      intro p2 out1 k q h1
      unfold frameF
      rw [hh]
      simp only
      rw [h1]
    have HP : Hid (P = Frm D rb g o c b most K w fb (frameF b most p out)) := hP
    have hol : out.length ≤ 4194304 := by have := h.ol; have := h.ml; omega
    have hp1 : p1 ≤ b.length := hok.2.1
    have hbl := h.bl
    clear h hf hP hX hh hok
    go_enter Try.func64, Try.ntmps64
    go_wp2_with (first | (go_at_call 75; with_reducible refine HC.out.mono ?_; rintro e w1 ⟨rfl, ⟨a3, k3, c3⟩, H1⟩))
    go_loopg [19] (b.length - p1) (fun kx i wr => ∃ (p2 k q : Nat) (out1 : List By), p2 ≤ b.length ∧ b.length - p2 ≤ kx ∧ Hid (BIv D rb g o c b most K w fb p s out.length p1 out p2 out1 k q wr))
    case atStart => exact ⟨p1, 0, 0, out, hp1, Nat.le_refl _, H1⟩
    case round =>
      obtain ⟨p2, k, q, out1, hp2, hkx, HB⟩ := hrel
      have BL := BLK.out _ _ _ _ _ HB.out
      clear BLK HC H1 HB
      go_wp2_with fail
      go_at_call 76
      with_reducible refine BL.out.mono ?_
      rintro e w2 (⟨ch, rfl, HF⟩ | ⟨rfl, HE⟩ | ⟨rfl, p3, out2, k2, q2, g1, g2, HB2⟩)
      · go_wp2_with fail
        exact ⟨rfl, HF.out⟩
      · obtain ⟨hB, hRI, hFB, hFr, hge⟩ := HE.out
        have hfr2 := HFR.out _ _ _ _ hB
        obtain ⟨n, hn⟩ : ∃ n, out1.length - out.length = n := ⟨_, rfl⟩
        obtain ⟨m1, m2, m3, m4, m5⟩ := FB.keepRI _ hRI hFB hfr hKf hDf 11 _ (.int .i64 (n : Int)) (fmid p s k q n) rfl rfl
        obtain ⟨_, _, _, _, _, a4, k4, hv4, hk4, hk5, _⟩ := hRI.cells
        have hol1 := hRI.ol
        have hml1 := hRI.ml
        have hpl1 := hRI.pl
        obtain ⟨V1, hV1⟩ : ∃ V1, w2.setCell ⟨fb, 11, none⟩ (.int .i64 (n : Int)) = V1 := ⟨_, rfl⟩
        rw [hV1] at m3 m4 m5
        have f7 : V1.cell? ⟨fb, 7, none⟩ = some (.bool s.csum) := (row_cell m4 7 _ rfl).1
        have f8 : V1.cell? ⟨fb, 8, none⟩ = some (.bool s.csize) := (row_cell m4 8 _ rfl).1
        have f11 : V1.cell? ⟨fb, 11, none⟩ = some (.int .i64 (n : Int)) := (row_cell m4 11 _ rfl).1
        have g1 := m3.cells.2.1
        have hFr2 : Fr (fun k => k = rb ∨ k = fb ∨ ¬ K k) w V1 := hFr.trans (m5.mono (fun k hk => .inl (by rcases hk with hk | hk; exact .inl hk; exact .inr (.inl hk))))
        obtain ⟨a5, k5, hv5, hcase⟩ := m3.from2 out.length hge
        have PANF : Hid (∀ a y V, frameF b most p out = .bad a y → Fr (fun k => k = rb ∨ k = fb ∨ ¬ K k) w V → Calls Try.prog 66 #[.int .i64 a, .int .i64 y] V fun e w' => ∃ ch, e = .panicked ch ∧ Hid (P (.panicked ch) w')) := by
          intro a y V h1 h2
          refine (fgiveUp_any a y V).mono ?_
          rintro e w3 ⟨rfl, rfl⟩
          exact ⟨_, rfl, PAN.out _ _ _ _ h1 rfl h2⟩
        have DONE : Hid (∀ f' r V, frameF b most p out = .ok (f', out1) → RdI D rb g o c b most f'.till out1 K V → FB fb { f' with till := 0 } V → Fr (fun k => k = rb ∨ k = fb ∨ ¬ K k) w V → P (.returned r) V) := by
          intro f' r V h1 h2 h3 h4
          rw [HP.out]
          refine ⟨h4, ?_⟩
          rw [h1]
          exact ⟨⟨_, rfl⟩, h2, h3⟩
        rw [hn] at hfr2
        have hzn : (out1.length : Int) - (out.length : Int) = (n : Int) := by omega
        have hnl : n ≤ 4194304 := by omega
        have hcz : s.csize = true ∨ s.csize = false := by cases s.csize <;> simp
        have hcs : s.csum = true ∨ s.csum = false := by cases s.csum <;> simp
        by_cases hbad : s.csize = true ∧ sz ≠ n
        · rw [if_pos hbad] at hfr2
          have HG : Hid (Calls Try.prog 66 #[.int .i64 p2, .int .i64 45] V1 fun e w' => ∃ ch, e = .panicked ch ∧ Hid (P (.panicked ch) w')) := PANF.out _ 45 _ hfr2 hFr2
          have f8' : V1.cell? ⟨fb, 8, none⟩ = some (.bool true) := by rw [← hbad.1]; exact f8
          have hzs : ¬ (n : Int) = (sz : Int) := by have := hbad.2; omega
          have hzs' : ((n : Int) != (sz : Int)) = true := by simp [hzs]
          have hzp : ((p2 + 4 : Nat) : Int) - 4 = (p2 : Int) := by omega
          have hp2' : p2 < 140737488351233 := by omega
          clear HFR PAN PANF DONE BL HE HP hB hfr2 hFr hFr2 m3 m4 m5 hFB hRI f8 hcase hbad hcz hcs
          generalize p2 + 4 = p4 at *
          generalize out1.length = l1 at *
          generalize out.length = l0 at *
          go_wp2_with (first | (go_at_call 66; with_reducible refine HG.out.mono ?_; rintro e w5 ⟨ch, rfl, HF⟩))
          exact ⟨rfl, HF.out⟩
        rw [if_neg hbad] at hfr2
        rcases hcs with hcs | hcs
        · rw [if_pos hcs] at hfr2
          have CK : Hid (∀ v, Sl (fun k => k = rb ∨ V1.heap.size ≤ k) v (out1.drop out.length) V1 → Calls Try.prog 77 #[.pointer (some ⟨rb, 0, none⟩), v, .int .i64 46] V1 fun e w' => (∃ ch, e = .panicked ch ∧ Hid (P (.panicked ch) w')) ∨ ((∃ r, e = .returned r) ∧ Hid (∀ r, P (.returned r) w'))) := by
            intro v hv
            by_cases hsh : b.length < p2 + 8
            · rw [if_pos hsh] at hfr2
              refine (rcheck_short m3 v _ hv 46 (by omega)).mono ?_
              rintro e w' ⟨rfl, h1⟩
              exact .inl ⟨_, rfl, PAN.out _ _ _ _ hfr2 rfl (hFr2.trans (h1.mono (fun k hk => .inl (.inl hk))))⟩
            rw [if_neg hsh] at hfr2
            by_cases hsum : le (tk b (p2 + 4) 4) ≠ sm (out1.drop out.length)
            · rw [if_pos hsum] at hfr2
              refine (rcheck_bad m3 v _ hv 46 (by omega) hsum).mono ?_
              rintro e w' ⟨rfl, h1⟩
              exact .inl ⟨_, rfl, PAN.out _ _ _ _ hfr2 rfl (hFr2.trans (h1.mono (fun k hk => .inl (.inl hk))))⟩
            · rw [if_neg hsum] at hfr2
              refine (rcheck_ok m3 v _ hv 46 (by omega) (by simpa using hsum)).mono ?_
              rintro e w' ⟨hr, h1, h2⟩
              refine .inr ⟨hr, fun r => DONE.out _ r _ hfr2 h1 (m4.kept h2 hfr) (hFr2.trans (h2.mono (fun k hk => .inl (.inl hk))))⟩
          have f7' : V1.cell? ⟨fb, 7, none⟩ = some (.bool true) := by rw [← hcs]; exact f7
          have SLC : Hid ((a5 = none ∧ out.length = 0 ∧ k5 = 0 ∧ out1 = []) ∨ ∃ g2, a5 = some ⟨g2, 0, none⟩ ∧ out.length ≤ k5 ∧ out1.length ≤ k5 ∧ k5 < 9223372036854775808 ∧ Sl (fun k => k = rb ∨ V1.heap.size ≤ k) (.slice (some ⟨g2, out.length, none⟩) n (k5 - out.length)) (out1.drop out.length) V1) := by rw [hn] at hcase; exact hcase
          clear HFR PAN PANF DONE BL HE HP hB hfr2 hFr hFr2 m3 m4 m5 hFB hRI hcase f7
          rcases hcz with hcz | hcz
          · have f8' : V1.cell? ⟨fb, 8, none⟩ = some (.bool true) := by rw [← hcz]; exact f8
            have hzs : (n : Int) = (sz : Int) := by
              by_cases hx : sz = n
              · omega
              · exact absurd ⟨hcz, hx⟩ hbad
            have hzs' : ((n : Int) != (sz : Int)) = false := by simp [hzs]
            clear f8 hbad hcz hcs hzs
            rcases SLC.out with ⟨rfl, e0, rfl, e1⟩ | ⟨g2, rfl, j1, j2, j3, hO⟩
            · have CK' : Hid (Calls Try.prog 77 #[.pointer (some ⟨rb, 0, none⟩), .slice none 0 0, .int .i64 46] V1 fun e w' => (∃ ch, e = .panicked ch ∧ Hid (P (.panicked ch) w')) ∨ ((∃ r, e = .returned r) ∧ Hid (∀ r, P (.returned r) w'))) := CK.out _ (.inl ⟨none, rfl, by rw [e1]; simp⟩)
              have e2 : out1.length = 0 := by rw [e1]; rfl
              clear CK SLC e1
              generalize out1.length = l1 at *
              generalize out.length = l0 at *
              have hn0 : n = 0 := by omega
              have hV0 : w2.setCell ⟨fb, 11, none⟩ (.int .i64 0) = V1 := by rw [← hV1, hn0]; rfl
              have f12 : V1.cell? ⟨fb, 11, none⟩ = some (.int .i64 0) := by rw [f11, hn0]; rfl
              have hzs0 : ((0 : Int) != (sz : Int)) = false := by rw [← hzs', hn0]; rfl
              clear hzs'
              clear hV1 f11 hn hzn hn0 hnl
              subst e0
              subst e2
              go_wp2_with fail
              go_at_call 77
              with_reducible refine CK'.out.mono ?_
              rintro e w5 (⟨ch, rfl, HF⟩ | ⟨⟨r5, rfl⟩, HF⟩)
              · go_wp2_with fail
                exact ⟨rfl, HF.out⟩
              · go_wp2_with fail
                go_end0
                exact HF.out _
            · by_cases hkb : k5 = out.length
              · have CK' : Hid (∀ a, Calls Try.prog 77 #[.pointer (some ⟨rb, 0, none⟩), .slice a 0 0, .int .i64 46] V1 fun e w' => (∃ ch, e = .panicked ch ∧ Hid (P (.panicked ch) w')) ∨ ((∃ r, e = .returned r) ∧ Hid (∀ r, P (.returned r) w'))) := fun a => CK.out _ (.inl ⟨a, rfl, List.drop_eq_nil_of_le (by omega)⟩)
                have e2 : out1.length = out.length := by omega
                clear CK SLC hO
                generalize out1.length = l1 at *
                generalize out.length = l0 at *
                subst e2
                subst hkb
                clear hn
                go_wp2_with fail
                go_at_call 77
                with_reducible refine (CK'.out _).mono ?_
                rintro e w5 (⟨ch, rfl, HF⟩ | ⟨⟨r5, rfl⟩, HF⟩)
                · go_wp2_with fail
                  exact ⟨rfl, HF.out⟩
                · go_wp2_with fail
                  go_end0
                  exact HF.out _
              · have CK' : Hid (Calls Try.prog 77 #[.pointer (some ⟨rb, 0, none⟩), .slice (some ⟨g2, out.length, none⟩) n (k5 - out.length), .int .i64 46] V1 fun e w' => (∃ ch, e = .panicked ch ∧ Hid (P (.panicked ch) w')) ∨ ((∃ r, e = .returned r) ∧ Hid (∀ r, P (.returned r) w'))) := CK.out _ hO
                clear CK SLC hO
                generalize out1.length = l1 at *
                generalize out.length = l0 at *
                go_wp2_with fail
                go_at_call 77
                with_reducible refine CK'.out.mono ?_
                rintro e w5 (⟨ch, rfl, HF⟩ | ⟨⟨r5, rfl⟩, HF⟩)
                · go_wp2_with fail
                  exact ⟨rfl, HF.out⟩
                · go_wp2_with fail
                  go_end0
                  exact HF.out _
          · have f8' : V1.cell? ⟨fb, 8, none⟩ = some (.bool false) := by rw [← hcz]; exact f8
            clear f8 hbad hcz hcs
            rcases SLC.out with ⟨rfl, e0, rfl, e1⟩ | ⟨g2, rfl, j1, j2, j3, hO⟩
            · have CK' : Hid (Calls Try.prog 77 #[.pointer (some ⟨rb, 0, none⟩), .slice none 0 0, .int .i64 46] V1 fun e w' => (∃ ch, e = .panicked ch ∧ Hid (P (.panicked ch) w')) ∨ ((∃ r, e = .returned r) ∧ Hid (∀ r, P (.returned r) w'))) := CK.out _ (.inl ⟨none, rfl, by rw [e1]; simp⟩)
              have e2 : out1.length = 0 := by rw [e1]; rfl
              clear CK SLC e1
              generalize out1.length = l1 at *
              generalize out.length = l0 at *
              have hn0 : n = 0 := by omega
              have hV0 : w2.setCell ⟨fb, 11, none⟩ (.int .i64 0) = V1 := by rw [← hV1, hn0]; rfl
              have f12 : V1.cell? ⟨fb, 11, none⟩ = some (.int .i64 0) := by rw [f11, hn0]; rfl
              clear hV1 f11 hn hzn hn0 hnl
              subst e0
              subst e2
              go_wp2_with fail
              go_at_call 77
              with_reducible refine CK'.out.mono ?_
              rintro e w5 (⟨ch, rfl, HF⟩ | ⟨⟨r5, rfl⟩, HF⟩)
              · go_wp2_with fail
                exact ⟨rfl, HF.out⟩
              · go_wp2_with fail
                go_end0
                exact HF.out _
            · by_cases hkb : k5 = out.length
              · have CK' : Hid (∀ a, Calls Try.prog 77 #[.pointer (some ⟨rb, 0, none⟩), .slice a 0 0, .int .i64 46] V1 fun e w' => (∃ ch, e = .panicked ch ∧ Hid (P (.panicked ch) w')) ∨ ((∃ r, e = .returned r) ∧ Hid (∀ r, P (.returned r) w'))) := fun a => CK.out _ (.inl ⟨a, rfl, List.drop_eq_nil_of_le (by omega)⟩)
                have e2 : out1.length = out.length := by omega
                clear CK SLC hO
                generalize out1.length = l1 at *
                generalize out.length = l0 at *
                subst e2
                subst hkb
                clear hn
                go_wp2_with fail
                go_at_call 77
                with_reducible refine (CK'.out _).mono ?_
                rintro e w5 (⟨ch, rfl, HF⟩ | ⟨⟨r5, rfl⟩, HF⟩)
                · go_wp2_with fail
                  exact ⟨rfl, HF.out⟩
                · go_wp2_with fail
                  go_end0
                  exact HF.out _
              · have CK' : Hid (Calls Try.prog 77 #[.pointer (some ⟨rb, 0, none⟩), .slice (some ⟨g2, out.length, none⟩) n (k5 - out.length), .int .i64 46] V1 fun e w' => (∃ ch, e = .panicked ch ∧ Hid (P (.panicked ch) w')) ∨ ((∃ r, e = .returned r) ∧ Hid (∀ r, P (.returned r) w'))) := CK.out _ hO
                clear CK SLC hO
                generalize out1.length = l1 at *
                generalize out.length = l0 at *
                go_wp2_with fail
                go_at_call 77
                with_reducible refine CK'.out.mono ?_
                rintro e w5 (⟨ch, rfl, HF⟩ | ⟨⟨r5, rfl⟩, HF⟩)
                · go_wp2_with fail
                  exact ⟨rfl, HF.out⟩
                · go_wp2_with fail
                  go_end0
                  exact HF.out _
        · rw [if_neg (by rw [hcs]; decide)] at hfr2
          have HD : Hid (∀ r, P (.returned r) V1) := fun r => DONE.out _ r _ hfr2 m3 m4 hFr2
          have f7' : V1.cell? ⟨fb, 7, none⟩ = some (.bool false) := by rw [← hcs]; exact f7
          clear HFR PAN PANF DONE BL HE HP hB hfr2 hFr hFr2 m3 m4 m5 hFB hRI hcase f7
          rcases hcz with hcz | hcz
          · have f8' : V1.cell? ⟨fb, 8, none⟩ = some (.bool true) := by rw [← hcz]; exact f8
            have hzs : (n : Int) = (sz : Int) := by
              by_cases hx : sz = n
              · omega
              · exact absurd ⟨hcz, hx⟩ hbad
            have hzs' : ((n : Int) != (sz : Int)) = false := by simp [hzs]
            clear f8 hbad hcz hcs hzs
            generalize out1.length = l1 at *
            generalize out.length = l0 at *
            go_wp2_with fail
            go_end0
            exact HD.out _
          · have f8' : V1.cell? ⟨fb, 8, none⟩ = some (.bool false) := by rw [← hcz]; exact f8
            clear f8 hbad hcz hcs
            generalize out1.length = l1 at *
            generalize out.length = l0 at *
            go_wp2_with fail
            go_end0
            exact HD.out _
      · go_wp2_with fail
        go_roundg (b.length - p3)
        all_goals (first | omega | exact ⟨p3, k2, q2, out2, g2, Nat.le_refl _, HB2⟩)
end Go.Proofs.Ytdeefemeiggolaa

namespace Go.Proofs.Ytdeefemeiggolaa
open Go.RowKit
set_option linter.unusedVariables false
variable {D rb g o c : Nat} {b : List By} {most p : Nat} {out : List By} {K : Nat → Prop} {w : World}
theorem RdI.less {K' : Nat → Prop} (h : RdI D rb g o c b most p out K' w) (hk : ∀ k, K k → K' k) (hr : K rb) (hl : ∀ k, k < D → K k) : RdI D rb g o c b most p out K w := by
  obtain ⟨vo, h1, h2⟩ := h.row
  exact ⟨⟨vo, h1, h2.more (fun k hk' => .inl (hk k hk'))⟩, hr, h.dr, hl, h.gd, h.rd, fun k hk' => h.lt k (hk k hk'), h.hc, h.hc2, h.pl, h.ol, h.ml, h.bl⟩
theorem sizeF : (Try.prog.info? 49).map (·.size) = some 12 := by kernel_rfl
theorem frow_size (f : Fm) : (frow f).size = 12 := rfl
theorem frow_one (f : Fm) : (frow f).all (·.oneCell') = true := by simp [frow, Value.oneCell']
/-- What next answers. -/
def Nxt (D rb g o c : Nat) (b : List By) (most : Nat) (K : Nat → Prop) (w : World) (r : Rz (Fm × List By)) (e : Ending) (w' : World) : Prop :=
  Fr (fun k => k = rb ∨ ¬ K k) w w' ∧ match r with
    | .bad a y => e = flt a y
    | .ok (f, out') => e = .returned (.agg (frow f)) ∧ RdI D rb g o c b most f.till out' K w'
set_option maxHeartbeats 16000000 in
set_option maxRecDepth 100000 in
theorem rnext_any (h : RdI D rb g o c b most p out K w) : Calls Try.prog 47 #[.pointer (some ⟨rb, 0, none⟩)] w (Nxt D rb g o c b most K w (nextF b most p out)) := by
  obtain ⟨P, hP⟩ : ∃ P : Ending → World → Prop, P = Nxt D rb g o c b most K w (nextF b most p out) := ⟨_, rfl⟩
  rw [← hP]
  obtain ⟨fv, hfv⟩ : ∃ fv, w.heap.size = fv := ⟨_, rfl⟩
  obtain ⟨W1, hW1⟩ : ∃ W1, w.alloc (.cells #[.int .i64 0, .int .i64 0, .bool false, .int .i64 0, .int .i64 0, .bool false, .bool false, .bool false, .bool false, .int .i64 0, .int .i64 0, .int .i64 0] 49) = W1 := ⟨_, rfl⟩
  have hs1 : W1.heap.size = fv + 1 := by rw [← hW1, ← hfv]; simp
  obtain ⟨fb, hfb⟩ : ∃ fb, W1.heap.size = fb := ⟨_, rfl⟩
  obtain ⟨W2, hW2⟩ : ∃ W2, W1.alloc (.cells #[.int .i64 p, .int .i64 0, .bool false, .int .i64 0, .int .i64 0, .bool false, .bool false, .bool false, .bool false, .int .i64 0, .int .i64 0, .int .i64 0] 49) = W2 := ⟨_, rfl⟩
  have hs2 : W2.heap.size = fb + 1 := by rw [← hW2, ← hfb]; simp
  have hN1 : Nw w W1 := by rw [← hW1]; exact (Fr.refl _ _).alloc _
  have hN2 : Nw W1 W2 := by rw [← hW2]; exact (Fr.refl _ _).alloc _
  have hrv : W1.heap[fv]? = some (.cells (frow (Fm.start 0)) 49) := by
    rw [← hW1, ← hfv]
    show (w.heap.push _)[w.heap.size]? = _
    rw [Array.getElem?_push_size]; rfl
  have hrb : FB fb (Fm.start p) W2 := by
    unfold FB
    rw [← hW2, ← hfb]
    show (W1.heap.push _)[W1.heap.size]? = _
    rw [Array.getElem?_push_size]; rfl
  have hrv2 : W2.heap[fv]? = some (.cells (frow (Fm.start 0)) 49) := hN2.heap hrv
  have hrl := h.lt rb h.kr
  have hfbr : fb ≠ rb := by omega
  have hfvr : fv ≠ rb := by omega
  have hDfb : D ≤ fb := by have := h.dr; omega
  obtain ⟨K', hK'⟩ : ∃ K' : Nat → Prop, K' = fun k => K k ∨ k = fv ∨ k = fb := ⟨_, rfl⟩
  have hR2 : RdI D rb g o c b most p out K' W2 := by
    refine h.keep (hN1.trans hN2) (fun k hk => hk.elim) (fun k hk => by rw [hK']; exact .inl hk) (fun k hk => ?_)
    rw [hK'] at hk
    rcases hk with hk | hk | hk
    · exact .inl hk
    · exact .inr ⟨by omega, by omega⟩
    · exact .inr ⟨by omega, by omega⟩
  have hKfb : K' fb := by rw [hK']; exact .inr (.inr rfl)
  have hKfv : K' fv := by rw [hK']; exact .inr (.inl rfl)
  have hX : ∀ V, Fr (fun k => k = rb ∨ k = fb ∨ ¬ K' k) W2 V → Fr (fun k => k = rb ∨ ¬ K k) w V := by
    intro V hV
    refine ((hN1.trans hN2).any (X := fun k => k = rb ∨ ¬ K k)).then hV (fun k hk => ?_)
    rcases hk with hk | hk | hk
    · exact .inl (.inl hk)
    · exact .inr (by omega)
    · exact .inl (.inr (fun hx => hk (by rw [hK']; exact .inl hx)))
  have PAN : Hid (∀ a y e V, nextF b most p out = .bad a y → e = flt a y → Fr (fun k => k = rb ∨ k = fb ∨ ¬ K' k) W2 V → P e V) := by
    intro a y e V h1 h2 h3
    rw [hP]
    refine ⟨hX V h3, ?_⟩
    rw [h1]; exact h2
  have FIN : Hid (∀ V f0 q out', Hid (RdI D rb g o c b most q out' K' V ∧ FB fb f0 V ∧ Fr (fun k => k = rb ∨ k = fb ∨ ¬ K' k) W2 V) → nextF b most p out = .ok ({ f0 with till := q }, out') →
      V.cell? ⟨rb, 1, none⟩ = some (.int .i64 q) ∧ (∃ x, V.cell? ⟨fb, 1, none⟩ = some x) ∧ V.frozen? ⟨fb, 1, none⟩ = false ∧ ∃ C C0 W9, V.setCell ⟨fb, 1, none⟩ (.int .i64 q) = W9 ∧ C.size = 12 ∧ C0.size = 12 ∧ C.all (·.oneCell') = true ∧ W9.heap[fb]? = some (.cells C 49 (0, 0)) ∧ W9.heap[fv]? = some (.cells C0 49 (0, 0)) ∧ (W9.setRow fv C).heap[fv]? = some (.cells C 49 (0, 0)) ∧ Hid (P (.returned (.agg C)) (W9.setRow fv C))) := by
    intro V f0 q out' hH hn
    obtain ⟨h1, h2, h3⟩ := hH.out
    obtain ⟨k1, k2, k3, k4, k5⟩ := FB.keepRI f0 h1 h2 hfbr hKfb hDfb 1 _ (.int .i64 (q : Int)) { f0 with till := q } rfl rfl
    have hv : V.heap[fv]? = some (.cells (frow (Fm.start 0)) 49) := row_kept hrv2 h3 (fun hx => by
      rcases hx with hx | hx | hx
      · exact hfvr hx
      · omega
      · exact hx hKfv)
    have hv2 := row_kept hv k5 (fun hx => by rcases hx with hx | hx; exact hfvr hx; omega)
    refine ⟨h1.cells.2.1, ⟨_, k1⟩, k2, frow { f0 with till := q }, _, _, rfl, rfl, rfl, frow_one _, k4, hv2, setRow_heap _ fv _ _ 49 _ hv2, ?_⟩
    show P _ _
    rw [hP]
    have hF9 : Fr (fun k => k = rb ∨ k = fb ∨ ¬ K' k) W2 (V.setCell ⟨fb, 1, none⟩ (.int .i64 (q : Int))) := h3.trans (k5.mono (fun k hk => .inl (by rcases hk with hk | hk; exact .inl hk; exact .inr (.inl hk))))
    have hF10 : Fr (fun k => k = fv) (V.setCell ⟨fb, 1, none⟩ (.int .i64 (q : Int))) ((V.setCell ⟨fb, 1, none⟩ (.int .i64 (q : Int))).setRow fv (frow { f0 with till := q })) := (Fr.refl _ _).setRow _ _ (.inl rfl)
    refine ⟨(hX _ hF9).then hF10 (fun k hk => .inr (by omega)), ?_⟩
    rw [hn]
    refine ⟨rfl, ?_⟩
    have := k3.keep (K' := K') hF10 (fun k hk => .inl ⟨by rw [hk]; exact hKfv, by have := h.dr; omega, by rw [hk]; exact hfvr⟩) (fun k hk => hk) (fun k hk => .inl hk)
    exact this.less (fun k hk => by rw [hK']; exact .inl hk) h.kr h.low
  have hx1 : W1.cell? ⟨rb, 1, none⟩ = some (.int .i64 p) := (h.nw hN1).cells.2.1
  have hpl := h.pl
  have hbl := h.bl
  have hx2 : W2.cell? ⟨fb, 0, none⟩ = some (.int .i64 p) := (row_cell hrb 0 _ rfl).1
  clear h hrv hrv2
  clear hs1 hs2 hrl
  have HFBR : Hid (fb ≠ rb) := hfbr
  have HW2 : Hid (W1.alloc (.cells #[.int .i64 p, .int .i64 0, .bool false, .int .i64 0, .int .i64 0, .bool false, .bool false, .bool false, .bool false, .int .i64 0, .int .i64 0, .int .i64 0] 49) = W2) := hW2
  clear hW2
  by_cases q1 : b.length < p + 4
  · have hn : nextF b most p out = .bad b.length 4 := by unfold nextF; rw [if_pos q1]
    have HN : Hid (Calls Try.prog 63 #[.pointer (some ⟨rb, 0, none⟩), .int .i64 4] W2 fun e w1 => ∃ ch, e = .panicked ch ∧ Hid (P (.panicked ch) w1)) := by
      show Calls _ _ _ _ _
      refine (rnumber_bad hR2 4 (by decide) q1).mono ?_
      rintro e w1 ⟨rfl, h1⟩
      exact ⟨_, rfl, PAN.out _ _ _ _ hn rfl h1.any⟩
    clear PAN FIN hX hP hR2 hrb hn
    subst hfb
    go_enter Try.func47, Try.ntmps47
    go_upto_region 2 with fail
    rw [HW2.out]
    go_wp2_with (first | (go_at_call 63; with_reducible refine HN.out.mono ?_; rintro e w1 ⟨ch, rfl, HF⟩))
    exact ⟨rfl, HF.out⟩
  have hmlt : le (tk b p 4) < 4294967296 := by have := le_lt (tk b p 4); rw [tk_length b p 4 (by omega)] at this; exact this
  have HN : Hid (Calls Try.prog 63 #[.pointer (some ⟨rb, 0, none⟩), .int .i64 4] W2 fun e w1 => e = .returned (.int .u64 (le (tk b p 4))) ∧ w1.cell? ⟨fb, 0, none⟩ = some (.int .i64 p) ∧ Hid (RdI D rb g o c b most (p + 4) out K' w1 ∧ FB fb (Fm.start p) w1 ∧ Fr (fun k => k = rb ∨ k = fb ∨ ¬ K' k) W2 w1)) := by
    show Calls _ _ _ _ _
    refine (rnumber_ok hR2 4 (by decide) (by decide) (by omega)).mono ?_
    rintro e w1 ⟨rfl, h1, h2⟩
    have h3 := hrb.kept h2 hfbr
    exact ⟨rfl, (row_cell h3 0 _ rfl).1, h1, h3, h2.mono (fun k hk => .inl (.inl hk))⟩
  by_cases q2 : le (tk b p 4) = 407708164
  · have hn : nextF b most p out = frameF b most p out := by unfold nextF; rw [if_neg q1, if_pos q2]
    rw [q2] at HN
    have HFR : Hid (∀ V, Hid (RdI D rb g o c b most (p + 4) out K' V ∧ FB fb (Fm.start p) V ∧ Fr (fun k => k = rb ∨ k = fb ∨ ¬ K' k) W2 V) → Calls Try.prog 64 #[.pointer (some ⟨rb, 0, none⟩), .pointer (some ⟨fb, 0, none⟩)] V fun e w2 => (∃ ch, e = .panicked ch ∧ Hid (P (.panicked ch) w2)) ∨ ((∃ r, e = .returned r) ∧ ∃ f0 q out', nextF b most p out = .ok ({ f0 with till := q }, out') ∧ Hid (RdI D rb g o c b most q out' K' w2 ∧ FB fb f0 w2 ∧ Fr (fun k => k = rb ∨ k = fb ∨ ¬ K' k) W2 w2))) := by
      intro V hV
      refine (rframe_any hV.out.1 fb hV.out.2.1 hfbr hKfb hDfb).mono ?_
      rintro e w2 ⟨h1, h2⟩
      have h3 := hV.out.2.2.trans h1
      cases hf : frameF b most p out with
      | bad a y =>
        rw [hf] at h2
        simp only at h2
        subst h2
        exact .inl ⟨_, rfl, PAN.out _ _ _ _ (by rw [hn, hf]) rfl h3⟩
      | ok r =>
        obtain ⟨f, out'⟩ := r
        rw [hf] at h2
        exact .inr ⟨h2.1, { f with till := 0 }, f.till, out', by rw [hn, hf], h2.2.1, h2.2.2, h3⟩
    clear PAN hX hP hR2 hrb hn
    subst hfb
    go_enter Try.func47, Try.ntmps47
    go_upto_region 2 with fail
    rw [HW2.out]
    go_wp2_with (first | (go_at_call 63; with_reducible refine HN.out.mono ?_; rintro e w1 ⟨rfl, c1, H1⟩))
    go_at_call 64
    with_reducible refine (HFR.out _ H1).mono ?_
    rintro e w3 (⟨ch, rfl, HF⟩ | ⟨⟨r, rfl⟩, f0, q, out', hn, H3⟩)
    · go_wp2_with fail
      exact ⟨rfl, HF.out⟩
    · obtain ⟨y1, ⟨y2, y3⟩, y4, C, C0, W9, hW9, z1, z2, z3, r1, r2, r3, HF⟩ := FIN.out _ _ _ _ H3 hn
      clear FIN HFR H3 hn H1 HN
      go_wp2_with (first | (refine wpList_load_row rfl 49 _ rfl W1.heap.size (by simp [Act.eval, Act.put]) 49 C (0, 0) _ r1 Try.underlying49 rfl (by rw [sizeF, z1]) ?_) | (refine wpList_store_row rfl 49 _ _ rfl fv C (by simp [Act.eval, Act.put]) (by simp [Act.eval, Act.put]) 49 C0 r2 (by rw [sizeF, z1]) (by rw [z1, z2]) z3 ?_))
      refine bodyPost_ret (results_cell_row rfl _ _ fv 49 C (0, 0) _ (by simp [Act.put]) r3 Try.underlying49 rfl (by rw [sizeF, z1])) rfl ?_
      exact HF.out
  have hne : ¬ ((le (tk b p 4) : Nat) : Int) = 407708164 := by omega
  have HSK : Hid (∀ V, Calls Try.prog 33 #[.int .u64 (le (tk b p 4))] V fun e w' => e = .returned (.bool (decide (le (tk b p 4) / 16 = 25481893))) ∧ w' = V) := fun V => fisSkipped_any _ (by omega) V
  by_cases q3 : le (tk b p 4) / 16 = 25481893
  · have hand : bits .and .u64 ((le (tk b p 4) : Nat) : Int) 15 = ((le (tk b p 4) % 16 : Nat) : Int) := by
      have e := u64_and_nat (le (tk b p 4)) 15 (by omega) (by decide)
      have e2 : ((15 : Nat) : Int) = 15 := rfl
      rw [e2] at e
      rw [e, show (15 : Nat) = 2 ^ 4 - 1 from rfl, Nat.and_two_pow_sub_one_eq_mod]
    obtain ⟨u, hu⟩ : ∃ u, le (tk b p 4) % 16 = u := ⟨_, rfl⟩
    have hul : u < 16 := by omega
    rw [hu] at hand
    have SKP : Hid (∀ V, Hid (RdI D rb g o c b most (p + 4) out K' V ∧ FB fb (Fm.start p) V ∧ Fr (fun k => k = rb ∨ k = fb ∨ ¬ K' k) W2 V) → (∃ x, V.cell? ⟨fb, 2, none⟩ = some x) ∧ V.frozen? ⟨fb, 2, none⟩ = false ∧ (∃ x, (V.setCell ⟨fb, 2, none⟩ (.bool true)).cell? ⟨fb, 3, none⟩ = some x) ∧ (V.setCell ⟨fb, 2, none⟩ (.bool true)).frozen? ⟨fb, 3, none⟩ = false ∧ Hid (RdI D rb g o c b most (p + 4) out K' ((V.setCell ⟨fb, 2, none⟩ (.bool true)).setCell ⟨fb, 3, none⟩ (.int .i64 u)) ∧ FB fb { Fm.start p with skipped := true, user := u } ((V.setCell ⟨fb, 2, none⟩ (.bool true)).setCell ⟨fb, 3, none⟩ (.int .i64 u)) ∧ Fr (fun k => k = rb ∨ k = fb ∨ ¬ K' k) W2 ((V.setCell ⟨fb, 2, none⟩ (.bool true)).setCell ⟨fb, 3, none⟩ (.int .i64 u)))) := by
      intro V hV
      obtain ⟨h1, h2, h3⟩ := hV.out
      obtain ⟨k1, k2, k3, k4, k5⟩ := FB.keepRI _ h1 h2 hfbr hKfb hDfb 2 _ (.bool true) { Fm.start p with skipped := true } rfl rfl
      obtain ⟨j1, j2, j3, j4, j5⟩ := FB.keepRI _ k3 k4 hfbr hKfb hDfb 3 _ (.int .i64 (u : Int)) { Fm.start p with skipped := true, user := u } rfl rfl
      have hm : ∀ {a b : World}, Fr (fun k => k = rb ∨ k = fb) a b → Fr (fun k => k = rb ∨ k = fb ∨ ¬ K' k) a b := fun h => h.mono (fun k hk => .inl (by rcases hk with hk | hk; exact .inl hk; exact .inr (.inl hk)))
      exact ⟨⟨_, k1⟩, k2, ⟨_, j1⟩, j2, j3, j4, (h3.trans (hm k5)).trans (hm j5)⟩
    have hnx : nextF b most p out = if b.length < p + 8 then .bad b.length 4 else if b.length < p + 8 + le (tk b (p + 4) 4) then .bad b.length 4 else .ok (⟨p, p + 8 + le (tk b (p + 4) 4), true, u, Shp.zero, 0, 0, 0⟩, out) := by
      unfold nextF; rw [if_neg q1, if_neg q2, if_pos q3, hu]
    have hd3 : decide (le (tk b p 4) / 16 = 25481893) = true := decide_eq_true q3
    rw [hd3] at HSK
    by_cases q4 : b.length < p + 8
    · rw [if_pos q4] at hnx
      have HN2 : Hid (∀ V, Hid (RdI D rb g o c b most (p + 4) out K' V ∧ FB fb { Fm.start p with skipped := true, user := u } V ∧ Fr (fun k => k = rb ∨ k = fb ∨ ¬ K' k) W2 V) → Calls Try.prog 63 #[.pointer (some ⟨rb, 0, none⟩), .int .i64 4] V fun e w1 => ∃ ch, e = .panicked ch ∧ Hid (P (.panicked ch) w1)) := by
        intro V hV
        refine (rnumber_bad hV.out.1 4 (by decide) (by omega)).mono ?_
        rintro e w1 ⟨rfl, h1⟩
        exact ⟨_, rfl, PAN.out _ _ _ _ hnx rfl (hV.out.2.2.trans h1.any)⟩
      clear PAN FIN hX hP hR2 hrb hnx hd3 hu
      generalize le (tk b p 4) = m at *
      subst hfb
      go_enter Try.func47, Try.ntmps47
      go_upto_region 2 with fail
      rw [HW2.out]
      go_wp2_with (first | (go_at_call 63; with_reducible refine HN.out.mono ?_; rintro e w1 ⟨rfl, c1, H1⟩; obtain ⟨⟨s1, s2⟩, s3, ⟨s4, s5⟩, s6, H2⟩ := SKP.out _ H1) | (go_at_call 33; with_reducible refine (HSK.out _).mono ?_; rintro e w2 ⟨rfl, rfl⟩) | (go_at_call 63; with_reducible refine (HN2.out _ H2).mono ?_; rintro e w3 ⟨ch, rfl, HF⟩))
      exact ⟨rfl, HF.out⟩
    rw [if_neg q4] at hnx
    have hnl : le (tk b (p + 4) 4) < 4294967296 := by have := le_lt (tk b (p + 4) 4); rw [tk_length b (p + 4) 4 (by omega)] at this; exact this
    have HN2 : Hid (∀ V, Hid (RdI D rb g o c b most (p + 4) out K' V ∧ FB fb { Fm.start p with skipped := true, user := u } V ∧ Fr (fun k => k = rb ∨ k = fb ∨ ¬ K' k) W2 V) → Calls Try.prog 63 #[.pointer (some ⟨rb, 0, none⟩), .int .i64 4] V fun e w1 => e = .returned (.int .u64 (le (tk b (p + 4) 4))) ∧ Hid (RdI D rb g o c b most (p + 8) out K' w1 ∧ FB fb { Fm.start p with skipped := true, user := u } w1 ∧ Fr (fun k => k = rb ∨ k = fb ∨ ¬ K' k) W2 w1)) := by
      intro V hV
      refine (rnumber_ok hV.out.1 4 (by decide) (by decide) (by omega)).mono ?_
      rintro e w1 ⟨rfl, h1, h2⟩
      exact ⟨rfl, h1, hV.out.2.1.kept h2 hfbr, hV.out.2.2.trans (h2.mono (fun k hk => .inl (.inl hk)))⟩
    obtain ⟨n, hn⟩ : ∃ n, le (tk b (p + 4) 4) = n := ⟨_, rfl⟩
    rw [hn] at hnx HN2 hnl
    by_cases q5 : b.length < p + 8 + n
    · rw [if_pos q5] at hnx
      have HT : Hid (∀ V, Hid (RdI D rb g o c b most (p + 8) out K' V ∧ FB fb { Fm.start p with skipped := true, user := u } V ∧ Fr (fun k => k = rb ∨ k = fb ∨ ¬ K' k) W2 V) → Calls Try.prog 65 #[.pointer (some ⟨rb, 0, none⟩), .int .i64 n] V fun e w1 => ∃ ch, e = .panicked ch ∧ Hid (P (.panicked ch) w1)) := by
        intro V hV
        refine (rtake_bad hV.out.1 n (by omega) (by omega)).mono ?_
        rintro e w1 ⟨rfl, h1⟩
        exact ⟨_, rfl, PAN.out _ _ _ _ hnx rfl (hV.out.2.2.trans h1.any)⟩
      clear PAN FIN hX hP hR2 hrb hnx hd3 hu hn
      generalize le (tk b p 4) = m at *
      subst hfb
      go_enter Try.func47, Try.ntmps47
      go_upto_region 2 with fail
      rw [HW2.out]
      go_wp2_with (first | (go_at_call 63; with_reducible refine HN.out.mono ?_; rintro e w1 ⟨rfl, c1, H1⟩; obtain ⟨⟨s1, s2⟩, s3, ⟨s4, s5⟩, s6, H2⟩ := SKP.out _ H1) | (go_at_call 33; with_reducible refine (HSK.out _).mono ?_; rintro e w2 ⟨rfl, rfl⟩) | (go_at_call 63; with_reducible refine (HN2.out _ H2).mono ?_; rintro e w3 ⟨rfl, H3⟩) | (go_at_call 65; with_reducible refine (HT.out _ H3).mono ?_; rintro e w4 ⟨ch, rfl, HF⟩))
      exact ⟨rfl, HF.out⟩
    · rw [if_neg q5] at hnx
      have HT : Hid (∀ V, Hid (RdI D rb g o c b most (p + 8) out K' V ∧ FB fb { Fm.start p with skipped := true, user := u } V ∧ Fr (fun k => k = rb ∨ k = fb ∨ ¬ K' k) W2 V) → Calls Try.prog 65 #[.pointer (some ⟨rb, 0, none⟩), .int .i64 n] V fun e w1 => (∃ r, e = .returned r) ∧ Hid (RdI D rb g o c b most (p + 8 + n) out K' w1 ∧ FB fb { Fm.start p with skipped := true, user := u } w1 ∧ Fr (fun k => k = rb ∨ k = fb ∨ ¬ K' k) W2 w1)) := by
        intro V hV
        refine (rtake_ok hV.out.1 n (by omega)).mono ?_
        rintro e w1 ⟨v, rfl, h1, h2, h3⟩
        exact ⟨⟨_, rfl⟩, h2, hV.out.2.1.kept h3 hfbr, hV.out.2.2.trans (h3.mono (fun k hk => .inl (.inl hk)))⟩
      have HNX : Hid (nextF b most p out = .ok (⟨p, p + 8 + n, true, u, Shp.zero, 0, 0, 0⟩, out)) := hnx
      clear PAN hX hP hR2 hrb hnx hd3 hu hn
      generalize le (tk b p 4) = m at *
      have HFI : Hid (∀ V, Hid (RdI D rb g o c b most (p + 8 + n) out K' V ∧ FB fb { Fm.start p with skipped := true, user := u } V ∧ Fr (fun k => k = rb ∨ k = fb ∨ ¬ K' k) W2 V) → _) := fun V hV => FIN.out V { Fm.start p with skipped := true, user := u } (p + 8 + n) out hV HNX.out
      clear FIN HNX
      generalize p + 8 + n = q at *
      subst hfb
      go_enter Try.func47, Try.ntmps47
      go_upto_region 2 with fail
      rw [HW2.out]
      go_wp2_with (first | (go_at_call 63; with_reducible refine HN.out.mono ?_; rintro e w1 ⟨rfl, c1, H1⟩; obtain ⟨⟨s1, s2⟩, s3, ⟨s4, s5⟩, s6, H2⟩ := SKP.out _ H1) | (go_at_call 33; with_reducible refine (HSK.out _).mono ?_; rintro e w2 ⟨rfl, rfl⟩) | (go_at_call 63; with_reducible refine (HN2.out _ H2).mono ?_; rintro e w3 ⟨rfl, H3⟩) | (go_at_call 65; with_reducible refine (HT.out _ H3).mono ?_; rintro e w4 ⟨⟨r4, rfl⟩, H4⟩; obtain ⟨y1, ⟨y2, y3⟩, y4, C, C0, W9, hW9, z1, z2, z3, r1, r2, r3, HF⟩ := HFI.out _ H4) | (refine wpList_load_row rfl 49 _ rfl W1.heap.size (by simp [Act.eval, Act.put]) 49 C (0, 0) _ r1 Try.underlying49 rfl (by rw [sizeF, z1]) ?_) | (refine wpList_store_row rfl 49 _ _ rfl fv C (by simp [Act.eval, Act.put]) (by simp [Act.eval, Act.put]) 49 C0 r2 (by rw [sizeF, z1]) (by rw [z1, z2]) z3 ?_))
      refine bodyPost_ret (results_cell_row rfl _ _ fv 49 C (0, 0) _ (by simp [Act.put]) r3 Try.underlying49 rfl (by rw [sizeF, z1])) rfl ?_
      exact HF.out
  · have hn : nextF b most p out = .bad p 130 := by unfold nextF; rw [if_neg q1, if_neg q2, if_neg q3]
    have hd3 : decide (le (tk b p 4) / 16 = 25481893) = false := decide_eq_false q3
    rw [hd3] at HSK
    have HG : Hid (∀ V, Hid (RdI D rb g o c b most (p + 4) out K' V ∧ FB fb (Fm.start p) V ∧ Fr (fun k => k = rb ∨ k = fb ∨ ¬ K' k) W2 V) → Calls Try.prog 66 #[.int .i64 p, .int .i64 130] V fun e w1 => ∃ ch, e = .panicked ch ∧ Hid (P (.panicked ch) w1)) := by
      intro V hV
      refine (fgiveUp_any p 130 V).mono ?_
      rintro e w1 ⟨rfl, rfl⟩
      exact ⟨_, rfl, PAN.out _ _ _ _ hn rfl hV.out.2.2⟩
    clear PAN FIN hX hP hR2 hrb hn hd3
    generalize le (tk b p 4) = m at *
    subst hfb
    go_enter Try.func47, Try.ntmps47
    go_upto_region 2 with fail
    rw [HW2.out]
    go_wp2_with (first | (go_at_call 63; with_reducible refine HN.out.mono ?_; rintro e w1 ⟨rfl, c1, H1⟩) | (go_at_call 33; with_reducible refine (HSK.out _).mono ?_; rintro e w2 ⟨rfl, rfl⟩) | (go_at_call 66; with_reducible refine (HG.out _ H1).mono ?_; rintro e w3 ⟨ch, rfl, HF⟩))
    exact ⟨rfl, HF.out⟩
end Go.Proofs.Ytdeefemeiggolaa
