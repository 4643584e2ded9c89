import Derived.Test.YtkpkiajehclbhaaCqD
namespace Go.Proofs.Ytkpkiajehclbhaa
open Go.RowKit
set_option linter.unusedVariables false
theorem wpL_make {ops : Array Oper} {rest : List Oper} {o : Oper} {a : Act} {w W : World} {v : Value} {Q : Exit → Act → World → Prop} (hg : o.guard = none) (l c : Operand) (t : TypeId) (hop : o.op = Op.makeSlice t l c) (L C : Int) (hl : a.eval l = .int .i64 L) (hc : a.eval c = .int .i64 C) (hrun : (Instr.makeSlice t (.int .i64 L) (.int .i64 C)).run Try.prog w = .ok v W) (hK : wpList Try.prog ops Q rest (a.put o.dst v) W) : wpList Try.prog ops Q (o :: rest) a w := by
  refine wpList_plain hg fun K hK' => ?_
  unfold Oper.wp
  simp [execOp, hop, hl, hc, hrun, Result.andThen]
  exact hK' _ _ hK
set_option maxHeartbeats 16000000 in
set_option maxRecDepth 100000 in
theorem swords_any (w : World) (v : Value) (ls : List Nat) (h : SlR RI (fun k => w.heap.size ≤ k) v (toI ls) w) (hk : Cod ls) : Calls Try.prog 53 #[v] w (WdA w ls) := by
  obtain ⟨P, hP⟩ : ∃ P : Ending → World → Prop, P = WdA w ls := ⟨_, rfl⟩
  rw [← hP]
  have hlen := hk.len
  have HS : Hid (∀ V, Nw w V → SlR RI (fun _ => False) v (toI ls) V) := fun V hV => (h.nw hV).mono (fun _ h => h.elim)
  obtain ⟨a, c, rfl, hc, hc2, hca⟩ := h.form
  rw [toI_length] at *
  have HF : Hid (∀ vs V, WdI w w.heap.size ls 16 0 vs V → P (.returned (.slice (some ⟨w.heap.size, 0, none⟩) ls.length ls.length)) V) := fun vs V hV => by
    rw [hP]; exact ⟨_, vs, rfl, hV⟩
  obtain ⟨W0, HMk, hW0⟩ := WdI.start w ls hlen
  have HW0 : Hid (WdI w w.heap.size ls 1 0 (List.replicate ls.length (none, 0, 0)) W0) := hW0
  have HK : Hid (Cod ls) := hk
  clear hP h hk hW0
  generalize hL : ls.length = L at *
  have hL' : Hid (ls.length = L) := hL
  clear hL
  generalize hB : w.heap.size = B at *
  go_enter Try.func53, Try.ntmps53
  go_wp2_with (first | (at_make; refine wpL_make rfl _ _ 98 rfl (L : Int) (L : Int) (by simp [Act.eval]) (by simp [Act.eval]) HMk.out ?_))
  go_loopg [4, 5, 6] 16 (fun kx code was n wr => ∃ (C S N : Nat), 1 ≤ N ∧ N ≤ 16 ∧ 16 - N ≤ kx ∧ code = .int .i64 C ∧ was = .int .i64 S ∧ n = .int .i64 N ∧ Hid (CwI ls N 0 C S) ∧ Hid (∃ vs, WdI w B ls N 0 vs wr))
  case atStart => exact ⟨0, 0, 1, by omega, by omega, by omega, rfl, rfl, rfl, CwI.start ls, ⟨_, HW0.out⟩⟩
  case round =>
    obtain ⟨C, S, N, hN1, hN2, hkx, rfl, rfl, rfl, HC, HW⟩ := hrel
    by_cases hlt : N ≤ 15
    · have hNl : (N : Int) ≤ 15 := by omega
      clear HF HMk HW0
      go_wp2_with fail
      go_loopg [4, 5, 7] L (fun kx code was i wr => ∃ (C S I : Nat), I ≤ L ∧ L - I ≤ kx ∧ code = .int .i64 C ∧ was = .int .i64 S ∧ i = .int .i64 I ∧ Hid (CwI ls N I C S) ∧ Hid (∃ vs, WdI w B ls N I vs wr))
      case atStart => exact ⟨C, S, 0, by omega, by omega, rfl, rfl, rfl, HC, HW⟩
      case round =>
        clear HC HW
        obtain ⟨C, S, I, hI, hkx, rfl, rfl, rfl, HC, HW⟩ := hrel
        by_cases hltI : I < L
        · have hiI : I < ls.length := by rw [hL'.out]; exact hltI
          obtain ⟨vs, hW⟩ := HW.out
          obtain ⟨g, o, rfl, _, hcell⟩ := ri_at (HS.out _ hW.nw) I _ (toI_at ls I hiI)
          have hz : (I : Int) < (L : Int) := by omega
          by_cases hx : ls.getD I 0 = N
          · obtain ⟨hc1, hc3⟩ := HC.out.hit hiI hx
            obtain ⟨hb1, hb2⟩ := HC.out.le HK.out hN1 hlt
            have hSN := HC.out.1
            obtain ⟨k, hk⟩ : ∃ k, k = N - S := ⟨_, rfl⟩
            have hki : (N : Int) - (S : Int) = (k : Int) := by omega
            have hk15 : k ≤ 15 := by omega
            rw [← hk] at hc1 hb2
            have hDl : cd ls I < 2 ^ N := by have := (HK.out.cd_lt I hiI (by omega)).2; rw [hx] at this; exact this
            have hpN : (2 : Nat) ^ N ≤ 2 ^ 15 := Nat.pow_le_pow_right (by decide) hlt
            have hwb : wb ls I = bl (rev N (cd ls I)) N := by unfold wb wdP; rw [if_neg (by omega), hx]
            obtain ⟨D, hD⟩ : ∃ D, D = cd ls I := ⟨_, rfl⟩
            rw [← hD] at hc1 hc3 hwb hDl
            have hsh : (C : Int) * 2 ^ k = (D : Int) := by rw [← hc1]; push_cast; rfl
            have hD2 : D < 32768 := by omega
            have HC2 : Hid (CwI ls N (I + 1) (D + 1) N) := hc3
            have HB : Hid (∀ J, J < N → rev N D / 2 ^ J % 2 = D / 2 ^ (N - 1 - J) % 2) := fun J hJ => rev_bit N D J hJ
            obtain ⟨wq, hwq⟩ : ∃ wq, wq = wr := ⟨_, rfl⟩
            have HPut : Hid (∀ g ln c V, Gr wq (bl (rev N D) N) g ln c V → ∃ vs, WdI w B ls N (I + 1) vs (V.setCell ⟨B, I, none⟩ (.slice (some ⟨g, 0, none⟩) ln c)) ∧ V.frozen? ⟨B, I, none⟩ = false ∧ ∃ u, V.cell? ⟨B, I, none⟩ = some u) := fun g ln c V hG => by
              subst hwq
              have hG2 := hG
              rw [← hwb] at hG2
              refine ⟨_, hW.put hiI hx hG2, ?_⟩
              obtain ⟨_, _, _, _, _, g5⟩ := hG
              have hv : vs[I]? = some (vs[I]'(by rw [hW.len]; exact hiI)) := List.getElem?_eq_getElem _
              have := (hW.keep g5).row.cellV I _ hv
              exact ⟨this.2, _, this.1⟩
            have HG0 : Hid (Gr wq (bl (rev N D) 0) wr.heap.size 0 0 (wr.alloc (.cells #[] 5))) := by subst hwq; exact Gr.start wq wq (Fr.refl _ _)
            have hx' : ((ls.getD I 0 : Nat) : Int) = (N : Int) := by omega
            have hsn : (S : Int) ≤ (N : Int) := by omega
            clear HC HW hW HS HK hiI hx hc1 hc3 hk hwb hD hpN hDl hwq
            generalize ls.getD I 0 = x at *
            go_wp2_with fail
            go_loopg [8, 9] N (fun kx l k wr => ∃ (J g c ln : Nat), J ≤ N ∧ N - J ≤ kx ∧ l = .slice (some ⟨g, 0, none⟩) ln c ∧ k = .int .i64 ((N : Int) - 1 - (J : Int)) ∧ Hid (Gr wq (bl (rev N D) J) g ln c wr))
            case atStart => exact ⟨0, wr.heap.size, 0, 0, by omega, by omega, rfl, by simp, HG0⟩
            case round =>
              clear HG0
              obtain ⟨J, g4, c4, ln4, hJ, hkx4, rfl, rfl, HG⟩ := hrel
              by_cases hltJ : J < N
              · have hG := HG.out
                have hs : ln4 ≤ 150000000000000 := by have := hG.1; rw [bl_length] at this; omega
                obtain ⟨K, hK⟩ : ∃ K, K = N - 1 - J := ⟨_, rfl⟩
                have hKi : (N : Int) - 1 - (J : Int) = (K : Int) := by omega
                have hK15 : K ≤ 15 := by omega
                obtain ⟨q, hq⟩ : ∃ q, q = D / 2 ^ K := ⟨_, rfl⟩
                obtain ⟨z, hz2⟩ : ∃ z, z = q % 2 := ⟨_, rfl⟩
                have hqi : (D : Int) / 2 ^ K = (q : Int) := by rw [hq]; push_cast; rfl
                have hql : q < 32768 := by rw [hq]; exact Nat.lt_of_le_of_lt (Nat.div_le_self _ _) hD2
                obtain ⟨g5, c5, W, HAP, HG5⟩ := hG.step hs (BitVec.ofNat 8 z) (z : Int) (by rw [BitVec.toNat_ofNat]; omega)
                have HN : Hid (Gr wq (bl (rev N D) (J + 1)) g5 (ln4 + 1) c5 W) := by
                  have h5 := HG5.out
                  rw [hz2, hq, hK, ← HB.out J hltJ, ← bl_succ] at h5
                  exact h5
                have hzm : (q : Int) % 2 = (z : Int) := by omega
                have hz255 : z ≤ 1 := by omega
                rw [hKi]
                clear HG hG HG5 hq hz2 hK HB HPut HC2
                go_wp2_with (first
                  | (at_builtin; refine Lib.wpList_append_run _ rfl _ _ 22 22 rfl (.slice (some ⟨g4, 0, none⟩) ln4 c4) (.slice (some ⟨_, 0, none⟩) 1 1) (by simp [Act.eval]) (by simp [Act.eval]) _ _ (HAP.out _) ?_))
                go_roundg (N - (J + 1))
                case measure => omega
                case rel => exact ⟨J + 1, g5, c5, ln4 + 1, by omega, by omega, rfl, by (congr 1; omega), HN⟩
              · obtain rfl : J = N := by omega
                have hKi : (J : Int) - 1 - (J : Int) = -1 := by omega
                rw [hKi]
                obtain ⟨vs', hW', hfz, u, hcu⟩ := HPut.out _ _ _ _ HG.out
                have HW2 : Hid (∃ vs, WdI w B ls J (I + 1) vs (wr.setCell ⟨B, I, none⟩ (.slice (some ⟨g4, 0, none⟩) ln4 c4))) := ⟨vs', hW'⟩
                clear HG HPut HB hW'
                go_wp2_with fail
                go_roundg (L - (I + 1))
                case measure => omega
                case rel => exact ⟨D + 1, J, I + 1, by omega, by omega, by first | rfl | (congr 1), rfl, by first | rfl | (congr 1), HC2, HW2⟩
          · have HC2 : Hid (CwI ls N (I + 1) C S) := HC.out.skip hiI hx
            have HW2 : Hid (∃ vs, WdI w B ls N (I + 1) vs wr) := ⟨vs, hW.skip hx⟩
            have hx' : ¬ ((ls.getD I 0 : Nat) : Int) = (N : Int) := by omega
            clear HC HW hW HS HK hiI hx
            generalize ls.getD I 0 = x at *
            go_wp2_with fail
            go_roundg (L - (I + 1))
            case measure => omega
            case rel => exact ⟨C, S, I + 1, by omega, by omega, rfl, rfl, by first | rfl | (congr 1), HC2, HW2⟩
        · obtain rfl : I = L := by omega
          have hz : ¬ (I : Int) < (I : Int) := by omega
          have HC2 : Hid (CwI ls (N + 1) 0 C S) := CwI.next (by rw [hL'.out]; exact HC.out) (by omega)
          have HW2 : Hid (∃ vs, WdI w B ls (N + 1) 0 vs wr) := by
            obtain ⟨vs, hW⟩ := HW.out
            exact ⟨vs, WdI.next (by rw [hL'.out]; exact hW)⟩
          clear HC HW HS HK
          go_wp2_with fail
          go_roundg (16 - (N + 1))
          case measure => omega
          case rel => exact ⟨C, S, N + 1, by omega, by omega, by omega, rfl, rfl, by first | rfl | (congr 1), HC2, HW2⟩
    · obtain rfl : N = 16 := by omega
      have hNl : ¬ ((16 : Nat) : Int) ≤ 15 := by omega
      obtain ⟨vs, hW⟩ := HW.out
      have HF2 : Hid (P (.returned (.slice (some ⟨B, 0, none⟩) L L)) wr) := HF.out vs wr hW
      clear HC HW HS HK hW HF
      go_wp2_with fail
      exact HF2.out
end Go.Proofs.Ytkpkiajehclbhaa
