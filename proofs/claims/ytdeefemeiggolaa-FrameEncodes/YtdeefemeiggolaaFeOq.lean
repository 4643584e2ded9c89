import Derived.Test.YtdeefemeiggolaaFeNq
namespace Go.Proofs.Ytdeefemeiggolaa
open Go.RowKit
set_option linter.unusedVariables false
/-! ### FrameEncodes: the calls' answers, one for Encode and laid, one for both Skips -/
def Ans (R : List By) (y : Int) (V : World) (e : Ending) (w' : World) : Prop := ∃ a' c', e = .returned (.tuple #[.slice a' R.length c', .int .i64 y]) ∧ Mine (fun k => k < V.heap.size) (.slice a' R.length c') R w' ∧ Nw V w'
theorem Ans.nil {V w' : World} (y : Int) (h : Nw V w') : Ans [] y V (.returned (.tuple #[.slice none 0 0, .int .i64 y])) w' := ⟨none, 0, rfl, Mine.nil _ _, h⟩
theorem EncB.short {s : Shp} {plain : List By} {p : Nat} {bl : List By} (h : EncB s plain p bl) : bl.length ≤ 9 * (plain.length - p) := by
  induction h with
  | fin p hp => simp
  | step p bk rest hp hE hr ih =>
    have h1 := blkOf_length s.bsum (tk plain p (siz s)) bk
    have h2 : (tk plain p (siz s)).length = min (siz s) (plain.length - p) := by unfold tk; rw [List.length_take, List.length_drop]
    have h3 : 1 ≤ siz s := Nat.one_le_two_pow
    rw [List.length_append]
    by_cases h4 : siz s ≤ plain.length - p
    · rw [Nat.min_eq_left h4] at h2; omega
    · rw [Nat.min_eq_right (by omega)] at h2; omega
theorem frameB_short (s : Shp) (plain bl : List By) (hl : plain.length ≤ 4194304) (h : EncB s plain 0 bl) : (frameB s plain bl).length ≤ 100000000000 := by
  have h1 := h.short
  have h6 : (fhead s plain.length).length ≤ 20 := by unfold fhead fhd; split <;> simp [lows_length]
  have h7 : (if s.csum = true then lows (sm plain) 4 else []).length ≤ 4 := by split <;> simp [lows_length]
  unfold frameB
  simp only [List.length_append, lows_length]
  omega
theorem enc_ans (k : Int) (b1 b2 b3 b4 : Bool) (plain : List By) :
    ∃ R y, (∀ V a c, Old V (.slice a plain.length c) plain → Calls Try.prog 10 #[.slice a plain.length c, .agg #[.int .i64 k, .bool b1, .bool b2, .bool b3, .bool b4]] V (Ans R y V)) ∧
      (∀ V a c, Old V (.slice a plain.length c) plain → Calls Try.prog 11 #[.slice a plain.length c, .agg #[.int .i64 k, .bool b1, .bool b2, .bool b3, .bool b4]] V (Ans R y V)) ∧ R.length ≤ 100000000000 := by
  by_cases hk : k < 4 ∨ 7 < k
  · refine ⟨[], 1, fun V a c h => ?_, fun V a c h => ?_, by simp⟩
    · refine (fEncode_arg V _ k b1 b2 b3 b4 hk).mono ?_
      rintro e w' ⟨rfl, hN⟩
      exact Ans.nil 1 hN
    · refine (laid_arg V a _ c k b1 b2 b3 b4 hk).mono ?_
      rintro e w' ⟨rfl, hN⟩
      exact Ans.nil 1 hN
  · by_cases hl : 4194304 < plain.length
    · refine ⟨[], 2, fun V a c h => ?_, fun V a c h => ?_, by simp⟩
      · refine (fEncode_long V a _ c k b1 b2 b3 b4 (by omega) (by omega) hl).mono ?_
        rintro e w' ⟨rfl, hN⟩
        exact Ans.nil 2 hN
      · refine (laid_long V a _ c k b1 b2 b3 b4 (by omega) (by omega) hl).mono ?_
        rintro e w' ⟨rfl, hN⟩
        exact Ans.nil 2 hN
    · obtain ⟨n, rfl⟩ : ∃ n : Nat, k = n := ⟨k.toNat, by omega⟩
      have E := fun V vp (hp : Old V vp plain) => fEncode_ok V vp plain hp ⟨n, b1, b2, b3, b4⟩ (by show 4 ≤ n; omega) (by show n ≤ 7; omega) (by omega)
      have D : ∀ V a c, Old V (.slice a plain.length c) plain → Calls Try.prog 11 #[.slice a plain.length c, .agg #[.int .i64 n, .bool b1, .bool b2, .bool b3, .bool b4]] V fun e w' => ∃ a' l' c' bl, e = .returned (.tuple #[.slice a' l' c', .int .i64 0]) ∧ EncB ⟨n, b1, b2, b3, b4⟩ plain 0 bl ∧ Mine (fun k => k < V.heap.size) (.slice a' l' c') (frameB ⟨n, b1, b2, b3, b4⟩ plain bl) w' ∧ Nw V w' := by
        intro V a c hp
        obtain ⟨a0, c0, e0, hcb, hcb2, hbo⟩ := hp.open
        injection e0 with e1 _ e3
        subst e1 e3
        by_cases hn : plain = []
        · exact laid_ok V ⟨n, b1, b2, b3, b4⟩ (by show 4 ≤ n; omega) (by show n ≤ 7; omega) a 0 0 plain.length c plain rfl hp (fun h => by rw [hn] at h; simp at h) hcb hcb2 (by omega)
        · obtain ⟨gb, ob, e4, hgb, hrb⟩ := hbo hn
          exact laid_ok V ⟨n, b1, b2, b3, b4⟩ (by show 4 ≤ n; omega) (by show n ≤ 7; omega) a gb ob plain.length c plain rfl hp (fun h => ⟨e4, hgb, hrb⟩) hcb hcb2 (by omega)
      simp only at E
      by_cases hex : ∃ bl, EncB ⟨n, b1, b2, b3, b4⟩ plain 0 bl
      · obtain ⟨bl, hbl⟩ := hex
        by_cases hsz : (frameB ⟨n, b1, b2, b3, b4⟩ plain bl).length ≤ 100000000000
        · refine ⟨frameB ⟨n, b1, b2, b3, b4⟩ plain bl, 0, fun V a c h => ?_, fun V a c h => ?_, hsz⟩
          · refine (E V _ h).mono ?_
            rintro e w' ⟨a', c', bl', rfl, h1, h2, h3⟩
            obtain rfl := h1.uniq hbl
            exact ⟨a', c', rfl, h2, h3⟩
          · refine (D V a c h).mono ?_
            rintro e w' ⟨a', l', c', bl', rfl, h1, h2, h3⟩
            obtain rfl := h1.uniq hbl
            obtain ⟨a2, c2, e2, _, _⟩ := h2.sl.form
            injection e2 with _ e2
            subst e2
            exact ⟨a', c', rfl, h2, h3⟩
        · exact absurd (frameB_short _ plain bl (by omega) hbl) hsz
      · refine ⟨[], 0, fun V a c h => ?_, fun V a c h => ?_, by simp⟩
        · refine (E V _ h).mono ?_
          rintro e w' ⟨a', c', bl', rfl, h1, h2, h3⟩
          exact absurd ⟨bl', h1⟩ hex
        · refine (D V a c h).mono ?_
          rintro e w' ⟨a', l', c', bl', rfl, h1, h2, h3⟩
          exact absurd ⟨bl', h1⟩ hex
theorem skip_ans (u : Int) (plain : List By) :
    ∃ R y, (∀ V a c, Old V (.slice a plain.length c) plain → Calls Try.prog 12 #[.int .i64 u, .slice a plain.length c] V (Ans R y V)) ∧
      (∀ V a c, Old V (.slice a plain.length c) plain → Calls Try.prog 13 #[.int .i64 u, .slice a plain.length c] V (Ans R y V)) := by
  by_cases hk : u < 0 ∨ 15 < u
  · refine ⟨[], 1, fun V a c h => ?_, fun V a c h => ?_⟩
    · refine (fSkip_arg V _ u hk).mono ?_
      rintro e w' ⟨rfl, rfl⟩
      exact Ans.nil 1 (Fr.refl _ _)
    · refine (dSkip_arg V _ u hk).mono ?_
      rintro e w' ⟨rfl, rfl⟩
      exact Ans.nil 1 (Fr.refl _ _)
  · by_cases hl : 4194304 < plain.length
    · refine ⟨[], 2, fun V a c h => ?_, fun V a c h => ?_⟩
      · refine (fSkip_long V a _ c u (by omega) (by omega) hl).mono ?_
        rintro e w' ⟨rfl, rfl⟩
        exact Ans.nil 2 (Fr.refl _ _)
      · refine (dSkip_long V a _ c u (by omega) (by omega) hl).mono ?_
        rintro e w' ⟨rfl, rfl⟩
        exact Ans.nil 2 (Fr.refl _ _)
    · obtain ⟨n, rfl⟩ : ∃ n : Nat, u = n := ⟨u.toNat, by omega⟩
      refine ⟨skipB n plain, 0, fun V a c h => ?_, fun V a c h => ?_⟩
      · exact fSkip_ok V _ plain h n (by omega) (by omega)
      · exact dSkip_ok V _ plain h n (by omega) (by omega)
end Go.Proofs.Ytdeefemeiggolaa
