import Derived.Test.YtiinalgflmgnaaaNgK
namespace Go.Proofs.Ytiinalgflmgnaaa
open Go.RowKit
set_option linter.unusedVariables false
/-- What a call that writes a field left, with its block. -/
def PutI (E : Nat) (L : List By) (g : Option Nat) (a : Option Addr) (n c : Nat) (W : World) : Prop :=
  (E ≠ 0 ∧ g = none ∧ a = none ∧ n = 0 ∧ c = 0) ∨ (E = 0 ∧ ∃ gg, g = some gg ∧ a = some ⟨gg, 0, none⟩ ∧ Ow gg (.slice (some ⟨gg, 0, none⟩) n c) L W)
theorem PutI.kept {E : Nat} {L : List By} {g : Option Nat} {a : Option Addr} {n c : Nat} {W W' : World} {X : Nat → Prop} (h : PutI E L g a n c W) (f : Fr X W W') (hx : ∀ k, g = some k → ¬ X k) : PutI E L g a n c W' := by
  rcases h with h | ⟨h1, gg, h2, h3, h4⟩
  · exact .inl h
  · exact .inr ⟨h1, gg, h2, h3, h4.kept f (hx gg h2)⟩
theorem PutI.lt {E : Nat} {L : List By} {g : Option Nat} {a : Option Addr} {n c : Nat} {W : World} (h : PutI E L g a n c W) : ∀ k, g = some k → k < W.heap.size := fun k hk => by
  rcases h with ⟨_, h, _⟩ | ⟨h1, gg, h2, h3, h4⟩
  · rw [h] at hk; cases hk
  · rw [h2] at hk; injection hk with hk; rw [← hk]; exact h4.lt
theorem put_i {E : Nat} {L : List By} {w : World} {e : Ending} {w' : World} (h : PutA E L w e w') : ∃ a n c g, e = .returned (.tuple #[.slice a n c, .int .i64 (E : Nat)]) ∧ Hid (Nw w w' ∧ PutI E L g a n c w' ∧ ∀ k, g = some k → w.heap.size ≤ k) := by
  obtain ⟨a, n, c, rfl, h1, h2⟩ := h
  rcases h2 with ⟨e0, rfl, rfl, rfl⟩ | ⟨e0, g, hg, hO⟩
  · exact ⟨none, 0, 0, none, rfl, h1, .inl ⟨e0, rfl, rfl, rfl, rfl⟩, fun k hk => by cases hk⟩
  · have hO' := hO
    obtain ⟨xs, ex, _⟩ := hO'
    injection ex with ea _ _
    subst ea
    exact ⟨_, n, c, some g, rfl, h1, .inr ⟨e0, g, rfl, rfl, hO⟩, fun k hk => by injection hk with hk; omega⟩
/-- The bytes that are told. -/
def told (E : Nat) (L : List By) : List By := if E = 0 then L else []
theorem PutI.sl {E : Nat} {L : List By} {g : Option Nat} {a : Option Addr} {n c : Nat} {W : World} (h : PutI E L g a n c W) : Sl (fun _ => False) (.slice a n c) (told E L) W := by
  rcases h with ⟨h0, _, rfl, rfl, rfl⟩ | ⟨h0, gg, _, rfl, hO⟩
  · unfold told; rw [if_neg h0]; exact .inl ⟨none, rfl, rfl⟩
  · unfold told; rw [if_pos h0]; exact .inr ⟨gg, fun h => h, hO.slb⟩
theorem litDD (w : World) : Sl (fun _ => False) (.slice (some ⟨w.heap.size, 0, none⟩) 2 2) [221#8, 221#8] (w.alloc (.cells #[.int .u8 221, .int .u8 221] 5)) := by
  have hb : Bw w.heap.size [221#8, 221#8] (w.alloc (.cells #[.int .u8 221, .int .u8 221] 5)) := by
    show (w.heap.push _)[w.heap.size]? = _
    simp
  exact .inr ⟨_, fun h => h, Ow.slb ⟨[221#8, 221#8], rfl, rfl, by decide, by decide, hb⟩⟩
section
attribute [local go_sem ↓] appF_fold
set_option maxHeartbeats 8000000 in
set_option maxRecDepth 100000 in
theorem same12_any (E : Nat) (L : List By) (ga gb : Option Nat) (a1 : Option Addr) (n1 c1 : Nat) (a2 : Option Addr) (n2 c2 : Nat) (w : World) (h1 : PutI E L ga a1 n1 c1 w) (h2 : PutI E L gb a2 n2 c2 w) (hL : L.length ≤ 1000000) :
    Calls Try.prog 12 #[.slice a1 n1 c1, .slice a2 n2 c2, .int .i64 (E : Nat), .int .i64 (E : Nat)] w fun e w' => e = .returned (.bool true) ∧ Fr (fun k => ga = some k) w w' := by
  obtain ⟨P, hP⟩ : ∃ P : Ending → World → Prop, P = fun e w' => e = .returned (.bool true) ∧ Fr (fun k => ga = some k) w w' := ⟨_, rfl⟩
  rw [← hP]
  have HF : Hid (∀ W, Fr (fun k => ga = some k) w W → P (.returned (.bool true)) W) := fun W hW => by rw [hP]; exact ⟨rfl, hW⟩
  have cv1 := conv_any h1.sl
  have cv2 := conv_any h2.sl
  have tS : ((str (told E L)).toList == (str (told E L)).toList) = true := by simp
  have tE : ((E : Int) == (E : Int)) = true := by simp
  have hn := (sl_len h1.sl)
  have hnL : n1 ≤ 1000000 := by
    have := hn.1
    unfold told at this
    split at this
    · omega
    · simp at this; omega
  obtain ⟨hn1, hnc, hc9⟩ := hn
  clear hP h2 hn1
  rcases h1 with ⟨h0, rfl, rfl, rfl, rfl⟩ | ⟨h0, gg, rfl, rfl, hO⟩
  · -- nothing was told
    obtain ⟨v', W', hap, hOw, hNw⟩ := app_nil (w.alloc (.cells #[.int .u8 221, .int .u8 221] 5)) _ _ (litDD w) (by decide) (by decide)
    have hap2 : ∀ ty, (appF #[22, 22] ty #[.slice none 0 0, .slice (some ⟨w.heap.size, 0, none⟩) 2 2]).run Try.prog (w.alloc (.cells #[.int .u8 221, .int .u8 221] 5)) = .ok v' W' := hap
    have HF2 := tHid (HF.out W' (Nw.any (Fr.trans ((Fr.refl _ _).alloc _) hNw)))
    clear HF hap hOw hNw h0
    generalize str (told E L) = S at *
    go_enter Try.func12, Try.ntmps12
    go_wp2_with fail
    go_loopg [10] 1 (fun kx v wr => v = .int .i64 0 ∧ wr = w)
    case atStart => exact ⟨rfl, rfl⟩
    case round =>
      obtain ⟨rfl, rfl⟩ := hrel
      go_wp2_with fail
      exact HF2.out
  · have HST : Hid (∃ l, l.length = n1 ∧ Ow gg (.slice (some ⟨gg, 0, none⟩) n1 c1) l w ∧ Fr (fun k => (some gg : Option Nat) = some k) w w) := by
      have := (sl_len hO.old).1
      exact ⟨L, this, hO, Fr.refl _ _⟩
    have hgw := hO.lt
    clear hO h0
    generalize str (told E L) = S at *
    go_enter Try.func12, Try.ntmps12
    go_wp2_with fail
    go_loopg [10] n1 (fun kx v wr => ∃ I : Nat, I ≤ n1 ∧ n1 - I ≤ kx ∧ v = .int .i64 I ∧ Hid (∃ l, l.length = n1 ∧ Ow gg (.slice (some ⟨gg, 0, none⟩) n1 c1) l wr ∧ Fr (fun k => (some gg : Option Nat) = some k) w wr))
    case atStart => exact ⟨0, by omega, by omega, rfl, HST⟩
    case round =>
      obtain ⟨I, hI, hkx, rfl, HI⟩ := hrel
      obtain ⟨l, hl, hOw, hFr⟩ := HI.out
      by_cases hlt : I < n1
      · obtain ⟨cv, hc1, hc2⟩ : ∃ cv, wr.cell? ⟨gg, I, none⟩ = some (.int .u8 cv) ∧ wr.frozen? ⟨gg, I, none⟩ = false := ⟨_, hOw.at I (by omega)⟩
        have hput := hOw.put I (by omega) 238#8 238 rfl
        have HNX : Hid (∃ l, l.length = n1 ∧ Ow gg (.slice (some ⟨gg, 0, none⟩) n1 c1) l (wr.setCell ⟨gg, I, none⟩ (.int .u8 238)) ∧ Fr (fun k => (some gg : Option Nat) = some k) w (wr.setCell ⟨gg, I, none⟩ (.int .u8 238))) := ⟨_, by rw [List.length_set]; exact hl, hput, hFr.setCell _ _ (.inl rfl)⟩
        clear HF HST HI hOw hFr hput hl cv1 cv2
        go_wp2_with fail
        go_roundg (n1 - (I + 1))
        case measure => omega
        case rel => exact ⟨I + 1, by omega, by omega, by first | rfl | (congr 1), HNX⟩
      · have hNa : Nw wr (wr.alloc (.cells #[.int .u8 221, .int .u8 221] 5)) := (Fr.refl _ _).alloc _
        obtain ⟨v', g', W', hap, hOw', hFw, _⟩ := app_any _ gg _ l (hOw.nw hNa) _ _ (litDD wr) (by simp; omega)
        have hap2 : ∀ ty, (appF #[22, 22] ty #[.slice (some ⟨gg, 0, none⟩) n1 c1, .slice (some ⟨wr.heap.size, 0, none⟩) 2 2]).run Try.prog (wr.alloc (.cells #[.int .u8 221, .int .u8 221] 5)) = .ok v' W' := hap
        have HF2 := tHid (HF.out W' (Fr.then (hFr.trans (Nw.any hNa)) hFw (fun i hi => .inl (by rw [hi]))))
        have hltI : ¬ (I : Int) < (n1 : Int) := by omega
        clear HF HST HI hOw hFr hl hNa hap hOw' hFw cv1 cv2
        go_wp2_with fail
        exact HF2.out
end
end Go.Proofs.Ytiinalgflmgnaaa
