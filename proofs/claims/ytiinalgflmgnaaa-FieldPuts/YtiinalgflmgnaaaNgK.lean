import Derived.Test.YtiinalgflmgnaaaNgJ
namespace Go.Proofs.Ytiinalgflmgnaaa
open Go.RowKit
set_option linter.unusedVariables false
set_option maxHeartbeats 4000000 in
set_option maxRecDepth 100000 in
theorem rputNumber_any (n d : Int) (w : World) (hn1 : -9223372036854775808 ≤ n) (hn2 : n ≤ 9223372036854775807) :
    Calls Try.prog 9 #[.int .i64 n, .int .i64 d] w (PutA (pnE n d) (pnL n d) w) := by
  obtain ⟨P, hP⟩ : ∃ P : Ending → World → Prop, P = PutA (pnE n d) (pnL n d) w := ⟨_, rfl⟩
  rw [← hP]
  have HO : Hid (Calls Try.prog 5 #[.int .i64 n, .int .i64 d] w fun e w' => ∃ a m c, e = .returned (.tuple #[.slice a m c, .int .i64 (poE n d : Nat)]) ∧ Hid (Nw w w' ∧ ((poE n d ≠ 0 ∧ a = none ∧ m = 0 ∧ c = 0) ∨ (poE n d = 0 ∧ ∃ g, w.heap.size ≤ g ∧ Ow g (.slice a m c) (poL n d) w')))) := rputOctal_any n d w hn1 hn2
  have HB : Hid (∀ V, Calls Try.prog 7 #[.int .i64 n, .int .i64 d] V fun e w' => ∃ a m c, e = .returned (.tuple #[.slice a m c, .int .i64 (pbE n d : Nat)]) ∧ Hid (Nw V w' ∧ ((pbE n d ≠ 0 ∧ a = none ∧ m = 0 ∧ c = 0) ∨ (pbE n d = 0 ∧ ∃ g, V.heap.size ≤ g ∧ Ow g (.slice a m c) (pbL n d) w')))) := fun V => rputBinary_any n d V hn1 hn2
  by_cases hz : poE n d = 0
  · have HF : Hid (∀ W a m c, Nw w W → (∃ g, w.heap.size ≤ g ∧ Ow g (.slice a m c) (poL n d) W) → P (.returned (.tuple #[.slice a m c, .int .i64 0])) W) := fun W a m c h1 h2 => by
      rw [hP]
      unfold pnE pnL
      rw [if_pos hz, if_pos hz]
      exact ⟨a, m, c, rfl, h1, .inr ⟨rfl, h2⟩⟩
    have hz' := tHid hz
    rw [hz] at HO
    clear hP HB hz
    go_enter Try.func9, Try.ntmps9
    go_wp2_with (first | (go_at_call 5; with_reducible refine HO.out.mono ?_; rintro e w1 ⟨a, m, c, rfl, H1⟩))
    obtain ⟨h1, h2⟩ := H1.out
    rcases h2 with ⟨h2, _⟩ | ⟨_, h2⟩
    · exact absurd rfl h2
    · exact HF.out _ _ _ _ h1 h2
  · have HF : Hid (∀ V W a m c, Nw w V → Nw V W → ((pbE n d ≠ 0 ∧ a = none ∧ m = 0 ∧ c = 0) ∨ (pbE n d = 0 ∧ ∃ g, V.heap.size ≤ g ∧ Ow g (.slice a m c) (pbL n d) W)) → P (.returned (.tuple #[.slice a m c, .int .i64 (pbE n d : Nat)])) W) := fun V W a m c h0 h1 h2 => by
      rw [hP]
      unfold pnE pnL
      rw [if_neg hz, if_neg hz]
      refine ⟨a, m, c, rfl, h0.trans h1, ?_⟩
      rcases h2 with h2 | ⟨e, g, hg, hO⟩
      · exact .inl h2
      · exact .inr ⟨e, g, Nat.le_trans h0.size hg, hO⟩
    obtain ⟨E, hE⟩ : ∃ E, poE n d = E := ⟨_, rfl⟩
    rw [hE] at HO hz
    have hz2 : ((E : Int) == 0) = false := by rw [beq_eq_false_iff_ne]; omega
    have hz3 : ¬ (E : Int) = 0 := by omega
    clear hP hE
    generalize pbE n d = B at *
    go_enter Try.func9, Try.ntmps9
    go_wp2_with (first | (go_at_call 5; with_reducible refine HO.out.mono ?_; rintro e w1 ⟨a, m, c, rfl, H1⟩) | (go_at_call 7; with_reducible refine (HB.out _).mono ?_; rintro e w2 ⟨a2, m2, c2, rfl, H2⟩))
    exact HF.out _ _ _ _ _ H1.out.1 H2.out.1 H2.out.2
/-! ### The document's PutText -/
theorem bys_at (s : ByteArray) (i : Nat) (h : i < s.size) : (bys' s)[i]? = some (BitVec.ofNat 8 (s[i]'h).toNat) := by
  unfold bys'
  rw [List.getElem?_map]
  have e : s.data.toList[i]? = some (s[i]'h) := Lib.data_getElem? s i h
  rw [e]
  rfl
theorem ix_nz (l : List UInt8) (h : ∀ (i : Nat) (x : UInt8), l[i]? = some x → x ≠ 0) : ¬ 0 ≤ Lib.indexByte l 0 := by
  induction l with
  | nil => decide
  | cons a l ih =>
    rw [Lib.indexByte]
    have h0 : (a == 0) = false := by
      rw [beq_eq_false_iff_ne]; exact h 0 a rfl
    rw [h0]
    have := ih (fun i x hx => h (i + 1) x (by simpa using hx))
    have hge := Lib.indexByte_ge l 0
    simp only [Bool.false_eq_true, ↓reduceIte, beq_iff_eq]
    rw [if_pos (by omega)]; omega
theorem ix_z (l : List UInt8) (i : Nat) (h : l[i]? = some 0) : 0 ≤ Lib.indexByte l 0 := by
  induction l generalizing i with
  | nil => simp at h
  | cons a l ih =>
    rw [Lib.indexByte]
    by_cases h0 : a = 0
    · subst h0; rw [if_pos (by decide)]; exact Int.le_refl _
    · have h1 : (a == 0) = false := by rw [beq_eq_false_iff_ne]; exact h0
      rw [h1]
      cases i with
      | zero => simp at h; exact absurd h h0
      | succ i =>
        have := ih i (by simpa using h)
        simp only [Bool.false_eq_true, ↓reduceIte, beq_iff_eq]
        rw [if_neg (by omega)]; omega
theorem ptx_set (s : ByteArray) (k i : Nat) (hi : i < s.size) (hk : s.size ≤ k) : ((bys' s).take i ++ List.replicate (k - i) 0#8).set i (BitVec.ofNat 8 (s[i]'hi).toNat) = (bys' s).take (i + 1) ++ List.replicate (k - (i + 1)) 0#8 := by
  have hl : ((bys' s).take i).length = i := by rw [List.length_take, bys_len]; omega
  have e1 : k - i = (k - (i + 1)) + 1 := by omega
  rw [e1, List.replicate_succ]
  have := set_mid 0#8 (BitVec.ofNat 8 (s[i]'hi).toNat) ((bys' s).take i) (List.replicate (k - (i + 1)) 0#8)
  rw [hl] at this
  rw [this, List.take_add_one, bys_at s i hi]
  simp
set_option maxHeartbeats 8000000 in
set_option maxRecDepth 100000 in
theorem rputText_any (s : ByteArray) (d : Int) (w : World) (hs : s.size ≤ 140737488351232) :
    Calls Try.prog 11 #[.string s, .int .i64 d] w (PutA (pxE s d) (pxL s d) w) := by
  obtain ⟨P, hP⟩ : ∃ P : Ending → World → Prop, P = PutA (pxE s d) (pxL s d) w := ⟨_, rfl⟩
  rw [← hP]
  have HBAD : Hid (∀ E, pxE s d = E → E ≠ 0 → P (.returned (.tuple #[.slice none 0 0, .int .i64 (E : Nat)])) w) := fun E h h2 => by
    rw [hP, h]; exact ⟨none, 0, 0, rfl, Fr.refl _ _, .inl ⟨h2, rfl, rfl, rfl⟩⟩
  by_cases h1 : d < 1
  · have HF := tHid (HBAD.out 1 (by unfold pxE; rw [if_neg (by omega)]) (by decide))
    have d1 : decide (d < 1) = true := decide_eq_true h1
    clear hP HBAD
    go_enter Try.func11, Try.ntmps11
    go_wp2_with fail
    exact HF.out
  · have d1 : decide (d < 1) = false := decide_eq_false h1
    by_cases h2 : 512 < d
    · have HF := tHid (HBAD.out 1 (by unfold pxE; rw [if_neg (by omega)]) (by decide))
      have d2 : decide (512 < d) = true := decide_eq_true h2
      clear hP HBAD
      go_enter Try.func11, Try.ntmps11
      go_wp2_with fail
      exact HF.out
    · have d2 : decide (512 < d) = false := decide_eq_false h2
      obtain ⟨k, rfl⟩ : ∃ k : Nat, d = k := ⟨d.toNat, by omega⟩
      have HP := tHid hP
      clear hP
      go_enter Try.func11, Try.ntmps11
      go_upto_block 0 with fail
      go_cut [6] from 15 to 24 (fun v wx => wx = w ∧ Hid (noZ s = true))
      case first =>
        go_wp2_with fail
        go_loopg [6] s.size (fun kx v wr => ∃ I : Nat, I ≤ s.size ∧ s.size - I ≤ kx ∧ v = .int .i64 I ∧ wr = w ∧ Hid (∀ j, j < I → ∀ x, s.data.toList[j]? = some x → x ≠ 0))
        case atStart => exact ⟨0, by omega, by omega, rfl, rfl, fun j hj => by omega⟩
        case round =>
          obtain ⟨I, hI, hkx, rfl, rfl, HI⟩ := hrel
          by_cases hlt : I < s.size
          · obtain ⟨x, hx⟩ : ∃ x : UInt8, s[I]'hlt = x := ⟨_, rfl⟩
            have hxl : s.data.toList[I]? = some x := by rw [← hx]; exact Lib.data_getElem? s I hlt
            have hltI : (I : Int) < (s.size : Int) := by omega
            by_cases hx0 : x = 0
            · have HF := tHid (HBAD.out 1 (by
                have hz : noZ s = false := decide_eq_false (fun h => h (ix_z _ I (by rw [hxl, hx0])))
                unfold pxE; rw [if_neg (by rw [hz]; intro h; exact absurd h.2.2 (by decide))]) (by decide))
              have hx1 : x.toNat = 0 := by rw [hx0]; rfl
              clear HBAD HP HI hxl hx0
              go_wp2_with fail
              exact HF.out
            · have HNX : Hid (∀ j, j < I + 1 → ∀ x, s.data.toList[j]? = some x → x ≠ 0) := fun j hj y hy => by
                by_cases hjI : j = I
                · subst hjI
                  rw [hxl] at hy
                  injection hy with hy
                  rw [← hy]; exact hx0
                · exact HI.out j (by omega) y hy
              have hx1 : ¬ x.toNat = 0 := fun e => hx0 (UInt8.toNat_inj.1 e)
              have hx2 : ((x.toNat : Int) == 0) = false := by rw [beq_eq_false_iff_ne]; omega
              clear HBAD HP HI hxl hx0
              go_wp2_with fail
              go_roundg (s.size - (I + 1))
              case measure => omega
              case rel => exact ⟨I + 1, by omega, by omega, by first | rfl | (congr 1), rfl, HNX⟩
          · have HZ : Hid (noZ s = true) := decide_eq_true (ix_nz _ (fun i x hx => HI.out i (by have := (List.getElem?_eq_some_iff.1 hx).1; have e : s.data.toList.length = s.size := rfl; omega) x hx))
            clear HBAD HP HI
            go_wp2_with fail
            go_meet
            exact ⟨rfl, HZ⟩
      case rest =>
      obtain ⟨hw, HZ⟩ := hcut
      have hw' := hw.symm
      subst hw'
      clear hw
      by_cases h4 : (k : Int) < (s.size : Int)
      · have HF := tHid (HBAD.out 122 (by unfold pxE; rw [if_pos ⟨by omega, by omega, HZ.out⟩, if_neg (by omega)]) (by decide))
        clear HBAD HP HZ
        go_wp2_with fail
        exact HF.out
      · have hE : pxE s (k : Int) = 0 := by unfold pxE; rw [if_pos ⟨by omega, by omega, HZ.out⟩, if_pos (by omega)]
        obtain ⟨W0, hmk, hO, hN⟩ := makeB k (by omega) w
        have HF : Hid (∀ W, Nw w W → Ow w.heap.size (.slice (some ⟨w.heap.size, 0, none⟩) k k) (bys' s ++ List.replicate (k - s.size) 0#8) W → P (.returned (.tuple #[.slice (some ⟨w.heap.size, 0, none⟩) k k, .int .i64 0])) W) := fun W hW hOW => by
          rw [HP.out, hE]
          refine ⟨_, _, _, rfl, hW, .inr ⟨rfl, w.heap.size, Nat.le_refl _, ?_⟩⟩
          unfold pxL
          rw [Int.toNat_natCast]
          exact hOW
        have HST : Hid (Nw w W0 ∧ Ow w.heap.size (.slice (some ⟨w.heap.size, 0, none⟩) k k) ((bys' s).take 0 ++ List.replicate (k - 0) 0#8) W0) := ⟨hN, by simpa using hO⟩
        generalize hG : w.heap.size = G at *
        have HG := tHid hG
        clear HBAD HP HZ hO hN hE hG
        go_wp2_with fail
        go_loopg [8] s.size (fun kx v wr => ∃ I : Nat, I ≤ s.size ∧ s.size - I ≤ kx ∧ v = .int .i64 I ∧ Hid (Nw w wr ∧ Ow G (.slice (some ⟨G, 0, none⟩) k k) ((bys' s).take I ++ List.replicate (k - I) 0#8) wr))
        case atStart => exact ⟨0, by omega, by omega, rfl, HST⟩
        case round =>
          obtain ⟨I, hI, hkx, rfl, HI⟩ := hrel
          obtain ⟨hN, hO⟩ := HI.out
          by_cases hlt : I < s.size
          · obtain ⟨x, hx⟩ : ∃ x : UInt8, s[I]'hlt = x := ⟨_, rfl⟩
            have hst := ptx_set s k I hlt (by omega)
            rw [hx] at hst
            have hlen : ((bys' s).take I ++ List.replicate (k - I) 0#8).length = k := by rw [List.length_append, List.length_take, bys_len, List.length_replicate]; omega
            obtain ⟨cv, hc1, hc2⟩ : ∃ cv, wr.cell? ⟨G, I, none⟩ = some (.int .u8 cv) ∧ wr.frozen? ⟨G, I, none⟩ = false := ⟨_, hO.at I (by omega)⟩
            have hput := hO.put I (by omega) (BitVec.ofNat 8 x.toNat) (x.toNat : Int) (by rw [BitVec.toNat_ofNat, Nat.mod_eq_of_lt (by have := x.toNat_lt; omega)])
            rw [hst] at hput
            have HNX : Hid (Nw w (wr.setCell ⟨G, I, none⟩ (.int .u8 (x.toNat : Int))) ∧ Ow G (.slice (some ⟨G, 0, none⟩) k k) ((bys' s).take (I + 1) ++ List.replicate (k - (I + 1)) 0#8) (wr.setCell ⟨G, I, none⟩ (.int .u8 (x.toNat : Int)))) := ⟨hN.setCell _ _ (.inr (by rw [HG.out]; exact Nat.le_refl _)), hput⟩
            have hltI : (I : Int) < (s.size : Int) := by omega
            have hltk : (I : Int) < (k : Int) := by omega
            have hltn : I < k := by omega
            clear HF HST HI hN hO hst hlen hput HG
            go_wp2_with fail
            go_roundg (s.size - (I + 1))
            case measure => omega
            case rel => exact ⟨I + 1, by omega, by omega, by first | rfl | (congr 1), HNX⟩
          · have hIs : I = s.size := by omega
            rw [hIs, List.take_of_length_le (by rw [bys_len]; exact Nat.le_refl _)] at hO
            have HF2 := tHid (HF.out wr hN hO)
            have hltI : ¬ (I : Int) < (s.size : Int) := by omega
            clear HF HST HI hN hO HG hIs
            go_wp2_with fail
            exact HF2.out
end Go.Proofs.Ytiinalgflmgnaaa
