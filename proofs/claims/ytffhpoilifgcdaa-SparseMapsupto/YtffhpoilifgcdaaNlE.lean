import Derived.Test.YtffhpoilifgcdaaNlD
namespace Go.Proofs.Ytffhpoilifgcdaa
open Go.RowKit
set_option linter.unusedVariables false
theorem slx_len {X : Nat → Prop} {a : Option Addr} {n c : Nat} {l : List By} {w : World} (h : Sl X (.slice a n c) l w) : l.length = n ∧ n ≤ c ∧ c < 9223372036854775808 := by
  obtain ⟨a', c', e, q1, q2⟩ := h.form
  injection e with e1 e2 e3
  omega
theorem slx_at {X : Nat → Prop} {a : Option Addr} {n c : Nat} {l : List By} {w : World} (h : Sl X (.slice a n c) l w) (i : Nat) (hi : i < l.length) : ∃ g o, a = some ⟨g, o, none⟩ ∧ w.cell? ⟨g, o + i, none⟩ = some (.int .u8 l[i].toNat) := by
  rcases h with ⟨_, _, rfl⟩ | ⟨g, _, o, c', e, _, _, h⟩
  · simp at hi
  · injection e with e1 _ _
    exact ⟨g, o, e1, h i hi⟩
theorem by_ne {x : By} (h : x ≠ 0#8) : ¬ ((x.toNat : Int) = 0) := by
  intro e
  apply h
  apply BitVec.eq_of_toNat_eq
  have : (x.toNat : Int) = 0 := e
  simp
  omega
set_option maxHeartbeats 4000000 in
set_option maxRecDepth 100000 in
theorem runs_any {X : Nat → Prop} (w : World) (B0 B1 B2 B3 : Nat) (z : Int) (hz : -9223372036854775808 ≤ z ∧ z ≤ 9223372036854775807) (a : Option Addr) (n c : Nat) (b : List By) (hb : Sl X (.slice a n c) b w) (hn : n ≤ 1000000000) (V : World) (h : FM w B0 B1 B2 B3 z [] 0 V) :
    Calls Try.prog 21 #[.slice a n c, .func (.func 22) #[] #[.pointer (some ⟨B0, 0, none⟩), .pointer (some ⟨B3, 0, none⟩)]] V fun e V' => (∃ r, e = .returned r) ∧ ∃ l d, TI b (max z 1).toNat b.length l d ∧ FM w B0 B1 B2 B3 z l d V' := by
  obtain ⟨P, hP⟩ : ∃ P : Ending → World → Prop, P = fun e V' => (∃ r, e = .returned r) ∧ ∃ l d, TI b (max z 1).toNat b.length l d ∧ FM w B0 B1 B2 B3 z l d V' := ⟨_, rfl⟩
  rw [← hP]
  have HF : Hid (∀ r V' l d, TI b (max z 1).toNat b.length l d → FM w B0 B1 B2 B3 z l d V' → P (.returned r) V') := fun r V' l d h1 h2 => by rw [hP]; exact ⟨⟨_, rfl⟩, l, d, h1, h2⟩
  clear hP
  obtain ⟨hbn, k1, k2⟩ := slx_len hb
  have hN1 : 1 ≤ (max z 1).toNat := by omega
  have HT : Hid (∀ (l : List (Nat × Nat)) (d : Nat) (V : World) (f t : Nat), FM w B0 B1 B2 B3 z l d V → l.length ≤ 1000000000 → f ≤ t → t ≤ 1000000000000 → Calls Try.prog 22 #[.int .i64 f, .int .i64 t, .pointer (some ⟨B0, 0, none⟩), .pointer (some ⟨B3, 0, none⟩)] V fun e V' => (∃ r, e = .returned r) ∧ FM w B0 B1 B2 B3 z (tellL (max z 1).toNat l d f t) (tellD (max z 1).toNat d f t) V') := fun l d V f t h1 h2 h3 h4 => tell_any w B0 B1 B2 B3 z hz l d V h1 h2 f t h3 h4
  generalize (max z 1).toNat = N at *
  have HB := tHid (And.intro hbn (And.intro hb hN1))
  have H0 := tHid h
  clear hb hbn hN1 h hz
  go_enter Try.func21, Try.ntmps21
  go_upto_region 2 with fail
  go_loopg [4, 9] n (fun kx f i wr => ∃ (I F : Nat), I ≤ n ∧ F ≤ I ∧ n - I ≤ kx ∧ f = .int .i64 F ∧ i = .int .i64 I ∧ Hid (∃ l d, FI b N I l d F ∧ FM w B0 B1 B2 B3 z l d wr))
  case atStart => exact ⟨0, 0, by omega, by omega, by omega, rfl, rfl, [], 0, FI.start b N, H0.out⟩
  case round =>
    obtain ⟨I, F, hI, hF, hkx, rfl, rfl, HI⟩ := hrel
    obtain ⟨hbn, hb, hN1⟩ := HB.out
    obtain ⟨l, d, hFI, hFM⟩ := HI.out
    by_cases hlt : I < n
    · have hlt' : I < b.length := by omega
      obtain ⟨g, o, rfl, hcell⟩ := slx_at (hb.nw hFM.nw) I hlt'
      by_cases hx : b[I] = 0#8
      · have HN := tHid (hFI.zero hlt' hx)
        have HM := tHid hFM
        have hxi : (b[I].toNat : Int) = 0 := by rw [hx]; rfl
        rw [hxi] at hcell
        clear HI hFI hFM hb hbn HF HT hx hxi
        go_wp2_with fail
        go_roundg (n - (I + 1))
        case measure => omega
        case rel => exact ⟨I + 1, F, by omega, by omega, by omega, rfl, by first | rfl | (congr 1), l, d, HN.out, HM.out⟩
      · have hTI := hFI.tell hN1 (.inr ⟨b[I], List.getElem?_eq_getElem hlt', hx⟩)
        have HN := tHid (hTI.next hlt' hx)
        have HC := tHid (HT.out l d wr F I hFM (by have := hFI.ti.len; omega) hF (by omega))
        have hxi := by_ne hx
        clear HI hFI hFM hb hbn HF HT hx hTI
        generalize b[I].toNat = y at *
        go_wp2_with fail
        refine HC.out.mono ?_
        rintro e w1 ⟨⟨r, rfl⟩, H1⟩
        have H1 := tHid H1
        go_wp2_with fail
        go_roundg (n - (I + 1))
        case measure => omega
        case rel => exact ⟨I + 1, I + 1, by omega, by omega, by omega, by first | rfl | (congr 1), by first | rfl | (congr 1), _, _, HN.out, H1.out⟩
    · obtain rfl : I = n := by omega
      have hTI := hFI.tell hN1 (.inl hbn.symm)
      have HC := tHid (HT.out l d wr F I hFM (by have := hFI.ti.len; omega) hF (by omega))
      have HF2 : Hid (∀ r V', FM w B0 B1 B2 B3 z (tellL N l d F I) (tellD N d F I) V' → P (.returned r) V') := fun r V' k => HF.out r V' _ _ (by rw [hbn]; exact hTI) k
      clear HI hFI hFM hb hbn HF HT hTI
      go_wp2_with fail
      refine HC.out.mono ?_
      rintro e w1 ⟨⟨r, rfl⟩, H1⟩
      have H1 := tHid H1
      go_wp2_with fail
      go_end0
      exact HF2.out _ _ H1.out
end Go.Proofs.Ytffhpoilifgcdaa
