import Derived.Test.YtffhpoilifgcdaaDoorVaw
namespace Go.Proofs.YtffhpoilifgcdaaDoor
open Go.RowKit
set_option linter.unusedVariables false
/-! ### Put, both -/
def natL (l : List Rg) : List (Nat × Nat) := l.map (fun x => (x.1.toNat, x.2.toNat))
theorem natL_rgL (m : List (Nat × Nat)) : natL (rgL m) = m := by
  induction m with
  | nil => rfl
  | cons x m ih =>
    have e1 : rgL (x :: m) = ((x.1 : Int), (x.2 : Int)) :: rgL m := rfl
    rw [e1]
    unfold natL at ih ⊢
    rw [List.map_cons, ih]
    rfl
def ptX (l : List Rg) : List By := if vld l 9223372036854775807 then ptT (natL l) else []
def PtA (w : World) (l : List Rg) (e : Ending) (V : World) : Prop := ∃ a k c, e = .returned (.tuple #[.slice a k c, .int .i64 (if vld l 9223372036854775807 then 0 else 1)]) ∧ Hid (Nw w V ∧ NewB w (.slice a k c) (ptX l) V)
theorem PtA.bad {w : World} {l : List Rg} {V : World} (h : vld l 9223372036854775807 = false) (hN : Nw w V) : PtA w l (.returned (.tuple #[.slice none 0 0, .int .i64 1])) V := by
  refine ⟨none, 0, 0, by rw [h]; rfl, hN, ?_⟩
  unfold ptX
  rw [h]; exact Mine.nil _ _
theorem vld_m {l : List Rg} (h : vld l 9223372036854775807 = true) : ∃ m, l = rgL m ∧ chn 0 m ∧ m.length ≤ 65536 := by
  obtain ⟨_, h2, h3⟩ := vld_iff.1 h
  obtain ⟨m, rfl⟩ := vlE_nat (e := 0) h3
  exact ⟨m, rfl, (chn_vlE 0 m).2 h3, by rw [rgL_len] at h2; exact h2⟩
theorem chn_all {e : Nat} {m : List (Nat × Nat)} (h : chn e m) : ∀ x ∈ m, x.1 ≤ x.2 ∧ x.2 ≤ 9223372036854775807 := by
  induction m generalizing e with
  | nil => simp
  | cons y m ih =>
    intro x hx
    rcases List.mem_cons.1 hx with rfl | hx
    · exact ⟨h.2.1, h.2.2.1⟩
    · exact ih h.2.2.2 x hx
theorem rgT_len (x : Nat × Nat) (h : x.2 ≤ 9223372036854775807) (h1 : x.1 ≤ x.2) : (rgT x).length ≤ 42 := by
  have h1 := dgt_short x.1 (by omega)
  have h2 := dgt_short (x.2 - x.1) (by omega)
  rw [rgT, List.length_append, lnT_len, lnT_len]; omega
theorem rgsT_len (m : List (Nat × Nat)) (h : ∀ x ∈ m, x.1 ≤ x.2 ∧ x.2 ≤ 9223372036854775807) : (rgsT m).length ≤ 42 * m.length := by
  induction m with
  | nil => simp [rgsT]
  | cons x m ih =>
    have h1 := rgT_len x (h x List.mem_cons_self).2 (h x List.mem_cons_self).1
    have h2 := ih (fun y hy => h y (List.mem_cons_of_mem _ hy))
    rw [rgsT_cons, List.length_append, List.length_cons]; omega
theorem bdT_len (m : List (Nat × Nat)) (hl : m.length ≤ 65536) (h : ∀ x ∈ m, x.1 ≤ x.2 ∧ x.2 ≤ 9223372036854775807) : (bdT m).length ≤ 3000000 := by
  have h1 := rgsT_len m h
  have h2 := dgt_short m.length (by omega)
  rw [bdT, List.length_append, lnT_len]; omega
theorem rgN_at2 {X : Nat → Prop} {a : Option Addr} {n c : Nat} {l : List (Nat × Nat)} {w : World} (h : SlR RG X (.slice a n c) (rgL l) w) (i : Nat) (hx : i < l.length) : ∃ g o, a = some ⟨g, o, none⟩ ∧ w.cell? ⟨g, o + i * 2, none⟩ = some (.int .i64 (l[i].1 : Int)) ∧ w.cell? ⟨g, o + i * 2 + 1, none⟩ = some (.int .i64 (l[i].2 : Int)) := by
  obtain ⟨g, o, e, _, h0, h1⟩ := rg_at h i (by rw [rgL_len]; exact hx)
  have e2 : (rgL l)[i]'(by rw [rgL_len]; exact hx) = ((l[i].1 : Int), (l[i].2 : Int)) := by simp [rgL]
  rw [e2] at h0 h1
  exact ⟨g, o, e, h0, h1⟩
theorem Mine.len {K : Nat → Prop} {a : Option Addr} {k c : Nat} {l : List By} {w : World} (h : Mine K (.slice a k c) l w) : k = l.length ∧ k ≤ c ∧ c < 9223372036854775808 := by
  obtain ⟨a', c', e, q1, q2⟩ := h.sl.form
  injection e with e1 e2 e3
  omega
theorem rem512 (k : Nat) : (k : Int).tmod 512 = ((k % 512 : Nat) : Int) := by
  rw [Int.tmod_eq_emod_of_nonneg (by omega)]; omega
theorem padN_lt (p : Nat) : padN p < 512 := by unfold padN; omega
set_option maxHeartbeats 8000000 in
set_option maxRecDepth 100000 in
theorem put_any {X : Nat → Prop} (w : World) (hE : Ev15 w) (a : Option Addr) (n c : Nat) (l : List Rg) (hl : SlR RG X (.slice a n c) l w) :
    Calls Tryd.prog 6 #[.slice a n c] w (PtA w l) := by
  obtain ⟨P, hP⟩ : ∃ P : Ending → World → Prop, P = PtA w l := ⟨_, rfl⟩
  rw [← hP]
  obtain ⟨hln, k1, k2⟩ := slg_len hl
  have HV := tHid (valid_any w a n c l hl 9223372036854775807)
  cases hv : vld l 9223372036854775807 with
  | false =>
    have HF : Hid (∀ V, Nw w V → P (.returned (.tuple #[.slice none 0 0, .int .i64 1])) V) := fun V hV => by rw [hP]; exact PtA.bad hv hV
    rw [hv] at HV
    clear hP hl hln hv hE
    go_enter Tryd.func6, Tryd.ntmps6
    go_wp2_with (first
      | (go_at_call 23; with_reducible refine HV.out.mono ?_; rintro e w1 ⟨rfl, H1⟩; have H1 := tHid H1))
    first | exact HF.out _ H1.out | (go_ret; exact HF.out _ H1.out)
  | true =>
    rw [hv] at HV
    obtain ⟨m, rfl, hch, hml⟩ := vld_m hv
    rw [rgL_len] at hln
    have HF : Hid (∀ w1 K B V a k c, Nw w w1 → PM w1 K B (ptT m) V → V.cell? ⟨B, 0, none⟩ = some (.slice a k c) → P (.returned (.tuple #[.slice a k c, .int .i64 0])) V) := fun w1 K B V a k c h1 h2 h3 => by
      rw [hP]
      obtain ⟨a', k', c', q1, q2⟩ := h2.c
      rw [(one_cell q1).1] at h3
      injection h3 with h3
      injection h3 with e1 e2 e3
      subst e1 e2 e3
      refine ⟨a', k', c', by rw [hv]; rfl, h1.trans h2.nw, ?_⟩
      unfold ptX
      rw [hv, if_pos rfl, natL_rgL]
      exact q2.more (fun g hg => .inl (h2.kw g (by have := h1.size; omega)))
    have hall := chn_all hch
    have hbl := bdT_len m hml hall
    have HI : Hid (∀ V, Nw w V → ∀ i (h : i < m.length), ∃ g o, a = some ⟨g, o, none⟩ ∧ V.cell? ⟨g, o + i * 2, none⟩ = some (.int .i64 (m[i].1 : Int)) ∧ V.cell? ⟨g, o + i * 2 + 1, none⟩ = some (.int .i64 (m[i].2 : Int))) := fun V hV i h => rgN_at2 (hl.nw hV) i h
    have HLI : Hid (∀ w1 K B V b0, Nw w w1 → PM w1 K B b0 V → b0.length ≤ 10000000000 → ∀ u : Nat, u ≤ 9223372036854775807 → Calls Tryd.prog 24 #[.int .i64 u, .pointer (some ⟨B, 0, none⟩)] V fun e V' => (∃ r, e = .returned r) ∧ Hid (PM w1 K B (b0 ++ lnT u) V' ∧ Fr (fun k => ¬ K k ∨ k = B) V V')) := fun w1 K B V b0 h1 h2 h3 u hu => line_any w1 (hE.nw h1) K B b0 V h2 h3 u hu
    have HAll := tHid hall
    have HBL := tHid hbl
    have HLN := tHid hln
    have hn6 : n ≤ 65536 := by omega
    have HRL : Hid (∀ i, (lnT m.length ++ rgsT (m.take i)).length ≤ 3000000) := fun i => by
      have h1 := rgsT_len (m.take i) (fun x hx => hall x (List.mem_of_mem_take hx))
      have h2 := dgt_short m.length (by omega)
      have h3 : (m.take i).length ≤ m.length := by rw [List.length_take]; omega
      rw [List.length_append, lnT_len]; omega
    clear hP hl hln hv hE hch hall hbl
    go_enter Tryd.func6, Tryd.ntmps6
    go_upto_region 3 with (first
      | (go_at_call 23; with_reducible refine HV.out.mono ?_; rintro e w1 ⟨rfl, H1⟩; have H1 := tHid H1))
    go_upto_region 5 with fail
    obtain ⟨B, hB⟩ : ∃ B, w1.heap.size = B := ⟨_, rfl⟩
    obtain ⟨V0, hV0⟩ : ∃ V0, w1.alloc (.cells #[.slice none 0 0] 23) = V0 := ⟨_, rfl⟩
    have HP0 : Hid (PM w1 (fun k => k ≤ B) B [] V0) := by
      refine ⟨by rw [← hV0]; exact (Fr.refl _ _).alloc _, by omega, fun k hk => by omega, Nat.le_refl _, fun k hk => by rw [← hV0]; simp; omega, none, 0, 0, ?_, Mine.nil _ _⟩
      rw [← hV0, ← hB]; exact nHeap _ _
    have HBw : Hid (w1.heap.size = B) := hB
    rw [hV0, hB]
    have HC1 := tHid (HLI.out w1 _ B V0 [] H1.out HP0.out (by simp) n (by omega))
    rw [List.nil_append] at HC1
    clear hV0 hB HP0 HV
    go_wp2_with fail
    refine HC1.out.mono ?_
    rintro e w2 ⟨⟨r, rfl⟩, H2⟩
    have HP2 : Hid (PM w1 (fun k => k ≤ B) B (lnT m.length ++ rgsT (m.take 0)) w2) := by
      have := H2.out.1
      rw [← HLN.out] at this
      show PM _ _ _ _ _
      rw [List.take_zero, show rgsT [] = [] from rfl, List.append_nil]
      exact this
    clear HC1 H2
    go_upto_region 7 with fail
    go_loopg [18] n (fun kx i wr => ∃ (I : Nat), I ≤ n ∧ n - I ≤ kx ∧ i = .int .i64 I ∧ Hid (PM w1 (fun k => k ≤ B) B (lnT m.length ++ rgsT (m.take I)) wr))
    case atStart => exact ⟨0, by omega, by omega, rfl, HP2⟩
    case round =>
      obtain ⟨I, hI, hkx, rfl, HL⟩ := hrel
      by_cases hlt : I < n
      · have hlt' : I < m.length := by have := HLN.out; omega
        obtain ⟨g, o, rfl, x0, x1⟩ := HI.out wr (H1.out.trans HL.out.nw) I hlt'
        have hA := HAll.out m[I] (List.getElem_mem hlt')
        have hsn : lnT m.length ++ rgsT (m.take (I + 1)) = lnT m.length ++ rgsT (m.take I) ++ lnT m[I].1 ++ lnT (m[I].2 - m[I].1) := by
          rw [List.take_add_one, List.getElem?_eq_getElem hlt']
          show lnT m.length ++ rgsT (m.take I ++ [m[I]]) = _
          rw [rgsT_snoc, rgT]
          simp only [List.append_assoc]
        have hrl := HRL.out I
        have hd1 := dgt_short m[I].1 (by omega)
        have HSN := tHid hsn
        obtain ⟨F, hF⟩ : ∃ F, m[I].1 = F := ⟨_, rfl⟩
        obtain ⟨T, hT⟩ : ∃ T, m[I].2 = T := ⟨_, rfl⟩
        rw [hF, hT] at HSN
        rw [hF] at x0 hd1
        rw [hT] at x1
        rw [hF, hT] at hA
        obtain ⟨D, hD⟩ : ∃ D, T - F = D := ⟨_, rfl⟩
        rw [hD] at HSN
        have hDi : (T : Int) - (F : Int) = (D : Int) := by omega
        obtain ⟨V1, hV1⟩ : ∃ V1, wr.alloc (.cells #[.int .i64 (F : Int), .int .i64 (T : Int)] 51) = V1 := ⟨_, rfl⟩
        have hPA := HL.out.also (.cells #[.int .i64 (F : Int), .int .i64 (T : Int)] 51)
        rw [hV1] at hPA
        have hbx : V1.heap[wr.heap.size]? = some (.cells #[.int .i64 (F : Int), .int .i64 (T : Int)] 51) := by rw [← hV1]; exact nHeap _ _
        have v0 : V1.cell? ⟨wr.heap.size, 0, none⟩ = some (.int .i64 (F : Int)) := by unfold World.cell?; rw [hbx]; rfl
        have HC2 := tHid (HLI.out w1 _ B V1 _ H1.out hPA (by omega) F (by omega))
        have HBX := tHid hbx
        have hBlt : B < wr.heap.size := HL.out.kv B (Nat.le_refl _)
        obtain ⟨Bx, hBx⟩ : ∃ Bx, wr.heap.size = Bx := ⟨_, rfl⟩
        rw [hBx] at v0 HBX hBlt HC2
        have HBx := tHid hBx
        clear hF hT hsn hPA hbx hBx HL
        generalize lnT m.length ++ rgsT (m.take I) = b0 at *
        go_upto_region 9 with fail
        rw [HBx.out]
        clear hV1
        go_wp2_with fail
        refine HC2.out.mono ?_
        rintro e w3 ⟨⟨r3, rfl⟩, H3⟩
        have hbx3 : w3.heap[Bx]? = some (.cells #[.int .i64 (F : Int), .int .i64 (T : Int)] 51) := H3.out.2.heapv HBX.out (fun h => by
          rcases h with h | h
          · exact h (.inr rfl)
          · omega)
        have u0 : w3.cell? ⟨Bx, 0, none⟩ = some (.int .i64 (F : Int)) := by unfold World.cell?; rw [hbx3]; rfl
        have u1 : w3.cell? ⟨Bx, 1, none⟩ = some (.int .i64 (T : Int)) := by unfold World.cell?; rw [hbx3]; rfl
        have HC3 := tHid (HLI.out w1 _ B w3 _ H1.out H3.out.1 (by rw [List.length_append, lnT_len]; omega) D (by omega))
        rw [← HSN.out] at HC3
        clear HC2 hbx3 HBX H3
        go_wp2_with fail
        refine HC3.out.mono ?_
        rintro e w4 ⟨⟨r4, rfl⟩, H4⟩
        have HN4 : Hid (PM w1 (fun k => k ≤ B) B (lnT m.length ++ rgsT (m.take (I + 1))) w4) := H4.out.1.less (fun k hk => .inl hk) (fun k hk => by have := HBw.out; omega) (Nat.le_refl _)
        clear HC3 H4
        go_wp2_with fail
        go_roundg (n - (I + 1))
        case measure => omega
        case rel => exact ⟨I + 1, by omega, by omega, by first | rfl | (congr 1), HN4⟩
      · obtain rfl : n = I := by omega
        have HB0 : Hid (PM w1 (fun k => k ≤ B) B (bdT m) wr) := by
          have := HL.out
          rw [List.take_of_length_le (by have := HLN.out; omega)] at this
          exact this
        clear HL HRL HI HLI HAll HP2
        go_upto_region 12 with fail
        go_loopg [] 512 (fun kx wr => ∃ j : Nat, padN ((bdT m).length + j) ≤ kx ∧ Hid (j + padN ((bdT m).length + j) = padN (bdT m).length ∧ PM w1 (fun k => k ≤ B) B (bdT m ++ List.replicate j 0#8) wr))
        case atStart => exact ⟨0, by have := padN_lt ((bdT m).length + 0); omega, by rw [Nat.zero_add]; rfl, by rw [List.replicate_zero, List.append_nil]; exact HB0.out⟩
        case round =>
          obtain ⟨j, hkx2, HJ⟩ := hrel
          obtain ⟨hj1, hj2⟩ := HJ.out
          obtain ⟨a3, k3, c3, h3, h4⟩ := hj2.c
          obtain ⟨y0, y1⟩ := one_cell h3
          obtain ⟨hk3, hkc, hcc⟩ := h4.len
          rw [List.length_append, List.length_replicate] at hk3
          have hrem := rem512 k3
          by_cases hz : k3 % 512 = 0
          · have hp0 : padN ((bdT m).length + j) = 0 := padN_zero (by rw [← hk3]; exact hz)
            rw [hz] at hrem
            have HF2 := tHid (HF.out w1 _ B wr a3 k3 c3 H1.out (by
              rw [ptT, show padN (bdT m).length = j by omega]
              exact hj2) y0)
            have hrem2 : (k3 : Int) % 512 = 0 := by omega
            clear HF HJ hj1 hj2 h3 h4 hk3 HB0
            go_wp2_with fail
            first | exact HF2.out | (go_ret; exact HF2.out)
          · have hps := padN_succ (p := (bdT m).length + j) (by rw [← hk3]; exact hz)
            have hb4 := HBL.out
            have hpl := padN_lt (bdT m).length
            obtain ⟨a2, k2, c2, W2, HA, q2⟩ := mine_one (fun k => k ≤ B) wr hj2.kv a3 k3 c3 _ h4 (by rw [List.length_append, List.length_replicate]; omega) 0#8 0 rfl
            obtain ⟨r1, r2, r3, r4⟩ := hj2.put h3 q2.out.2 q2.out.1
            obtain ⟨U, hU⟩ : ∃ U, W2.setCell ⟨B, 0, none⟩ (.slice a2 k2 c2) = U := ⟨_, rfl⟩
            rw [hU] at r3
            have HNX : Hid (j + 1 + padN ((bdT m).length + (j + 1)) = padN (bdT m).length ∧ PM w1 (fun k => k ≤ B) B (bdT m ++ List.replicate (j + 1) 0#8) U) := by
              refine ⟨by rw [← Nat.add_assoc]; omega, ?_⟩
              rw [List.replicate_succ', ← List.append_assoc]
              exact r3
            have HMS : Hid (padN ((bdT m).length + (j + 1)) < padN ((bdT m).length + j)) := by show _ < _; rw [← Nat.add_assoc]; omega
            obtain ⟨R, hR⟩ : ∃ R, k3 % 512 = R := ⟨_, rfl⟩
            rw [hR] at hrem hz
            have hrem2 : (k3 : Int) % 512 = (R : Int) := by omega
            have hRz : ¬ ((R : Int) = 0) := by omega
            clear HF HJ hj1 hj2 h3 h4 hk3 HB0 q2 r3 r4 hps hpl hb4 hR
            go_wp2_with (first
              | (at_builtin; refine Lib.wpList_append_run _ rfl _ _ 23 23 rfl (.slice a3 k3 c3) (.slice (some ⟨wr.heap.size, 0, none⟩) 1 1) (by first | rfl | simp [Act.eval]) (by first | rfl | simp [Act.eval]) _ _ (HA.out _) ?_))
            go_roundg (padN ((bdT m).length + (j + 1)))
            case measure => have := HMS.out; omega
            case rel => exact ⟨j + 1, Nat.le_refl _, HNX⟩
end Go.Proofs.YtffhpoilifgcdaaDoor
