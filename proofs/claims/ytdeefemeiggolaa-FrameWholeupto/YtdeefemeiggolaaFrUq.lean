import Derived.Test.YtdeefemeiggolaaFrTq
import Derived.Test.YtdeefemeiggolaaQa
namespace Go.Proofs.Ytdeefemeiggolaa
open Go.RowKit
set_option linter.unusedVariables false
/-- Frames, as the document has it. -/
def ffr (b : List By) (most : Int) : List Fm × Nat × Nat :=
  if most < 0 ∨ 4194304 < most then ([], 0, 1) else
    match readF b most.toNat 0 [] [] with
    | .bad a y => ([], a, y)
    | .ok (_, fs) => (fs, b.length, 0)
/-- A list of frames that the call made. -/
def Frs (fs : List Fm) (v : Value) (w w' : World) : Prop := (v = .slice none 0 0 ∧ fs = []) ∨ ∃ g, w.heap.size ≤ g ∧ OwF g v fs w'
theorem fs_len {b : List By} {most p : Nat} {out : List By} {fs : List Fm} {out' : List By} {fs' : List Fm} (h : readF b most p out fs = .ok (out', fs')) (hf : fs.length * 8 ≤ p) (hp : p ≤ b.length) : fs'.length * 8 ≤ b.length := by
  induction hn : b.length - p using Nat.strongRecOn generalizing p out fs with
  | ind n ih =>
    rw [readF_eq] at h
    split at h
    · cases hb : nextF b most p out with
      | bad a y => rw [hb] at h; cases h
      | ok r =>
        obtain ⟨f, o⟩ := r
        rw [hb] at h
        obtain ⟨_, h2, h3, _⟩ := nextF_ok hb
        exact ih (b.length - f.till) (by omega) h (by rw [List.length_append, List.length_singleton]; omega) h3 rfl
    · injection h with h
      injection h with _ h
      rw [← h]; omega
set_option maxHeartbeats 8000000 in
set_option maxRecDepth 100000 in
theorem fframes_any (w : World) (vb : Value) (b : List By) (most : Int) (hb : Old w vb b) (hbl : b.length ≤ 8000000000) :
    Calls Try.prog 16 #[vb, .int .i64 most] w fun e w' => ∃ a n k, e = .returned (.tuple #[.slice a n k, .int .i64 (ffr b most).2.1, .int .i64 (ffr b most).2.2]) ∧ n = (ffr b most).1.length ∧ Frs (ffr b most).1 (.slice a n k) w w' ∧ Nw w w' := by
  obtain ⟨P, hP⟩ : ∃ P : Ending → World → Prop, P = fun e w' => ∃ a n k, e = .returned (.tuple #[.slice a n k, .int .i64 (ffr b most).2.1, .int .i64 (ffr b most).2.2]) ∧ n = (ffr b most).1.length ∧ Frs (ffr b most).1 (.slice a n k) w w' ∧ Nw w w' := ⟨_, rfl⟩
  rw [← hP]
  obtain ⟨a, c, rfl, hc, hc2, hbo⟩ := hb.open
  obtain ⟨lb, hlb⟩ : ∃ lb, w.heap.size = lb := ⟨_, rfl⟩
  obtain ⟨W1, hW1⟩ : ∃ W1, w.alloc (.cells #[.slice none 0 0] 34) = W1 := ⟨_, rfl⟩
  have hN1 : Nw w W1 := by rw [← hW1]; exact (Fr.refl _ _).alloc _
  have hs1 : W1.heap.size = lb + 1 := by rw [← hW1, ← hlb]; simp only [World.alloc, Array.size_push]
  have hrow : W1.heap[lb]? = some (.cells #[.slice none 0 0] 34) := by rw [← hW1]; exact new_row _ _ _ hlb
  have HT := tell_list b lb W1 hs1 hrow hbl
  have HC : Hid (Calls Try.prog 29 #[.slice a b.length c, .int .i64 most, .func (.func 31) #[] #[.pointer (some ⟨lb, 0, none⟩)]] W1 fun e w' => ∃ a2 n2 k2 y z, e = .returned (.tuple #[.slice a2 n2 k2, .int .i64 y, .int .i64 z]) ∧ ((¬ z = 0 ∧ Hid (P (.returned (.tuple #[.slice none 0 0, .int .i64 y, .int .i64 z])) w')) ∨ (z = 0 ∧ ∃ a3 n3 k3, w'.cell? ⟨lb, 0, none⟩ = some (.slice a3 n3 k3) ∧ Hid (P (.returned (.tuple #[.slice a3 n3 k3, .int .i64 y, .int .i64 0])) w')))) := by
    show Calls _ _ _ _ _
    by_cases hm : most < 0 ∨ 4194304 < most
    · refine (fread_arg W1 a b.length c most _ hm).mono ?_
      rintro e w' ⟨rfl, h1⟩
      refine ⟨_, _, _, _, _, rfl, .inl ⟨by decide, ?_⟩⟩
      show P _ _
      have hf : ffr b most = ([], 0, 1) := by unfold ffr; rw [if_pos hm]
      rw [hP, hf]
      exact ⟨_, _, _, rfl, rfl, .inl ⟨rfl, rfl⟩, hN1.trans h1⟩
    · obtain ⟨m, rfl⟩ : ∃ m : Nat, most = m := ⟨most.toNat, by omega⟩
      have hml : m ≤ 4194304 := by omega
      have key : Calls Try.prog 29 #[.slice a b.length c, .int .i64 m, .func (.func 31) #[] #[.pointer (some ⟨lb, 0, none⟩)]] W1 (Rdd b (fun k => k = lb) (TIF lb) W1 (readF b m 0 [] [])) := by
        by_cases hbn : b = []
        · subst hbn
          exact fread_none (D := lb) HT hml hc2
        · obtain ⟨g, o, rfl, hg, hrd⟩ := hbo hbn
          exact fread_some HT (by omega) (by omega) (hrd.nw hN1) hc hc2 (by omega) hml
      refine key.mono ?_
      rintro e w' ⟨hF, hr⟩
      have hNw : Nw w w' := hN1.then hF (fun k hk => .inr (by omega))
      have hd : ffr b m = match readF b m 0 [] [] with | .bad a y => ([], a, y) | .ok (_, fs) => (fs, b.length, 0) := by
        rw [ffr, if_neg hm]; rfl
      cases hrd : readF b m 0 [] [] with
      | bad x y =>
        rw [hrd] at hr hd
        simp only at hr hd
        subst hr
        refine ⟨_, _, _, _, _, rfl, .inl ⟨by have := readF_bad hrd; omega, ?_⟩⟩
        show P _ _
        rw [hP, hd]
        exact ⟨_, _, _, rfl, rfl, .inl ⟨rfl, rfl⟩, hNw⟩
      | ok r =>
        obtain ⟨out, fs⟩ := r
        rw [hrd] at hr hd
        simp only at hd
        obtain ⟨a2, k2, rfl, hM, K, h0, vl, h1, h2⟩ := hr
        have hfm : ∃ a3 n3 k3, vl = .slice a3 n3 k3 ∧ n3 = fs.length ∧ Frs fs vl w w' := by
          rcases h2 with ⟨rfl, rfl⟩ | ⟨lg, _, hg, hO⟩
          · exact ⟨_, _, _, rfl, rfl, .inl ⟨rfl, rfl⟩⟩
          · obtain ⟨c3, e3, _, _⟩ := hO.form
            exact ⟨_, _, _, e3, rfl, .inr ⟨lg, by omega, hO⟩⟩
        obtain ⟨a3, n3, k3, rfl, hn3, hfr⟩ := hfm
        refine ⟨_, _, _, _, _, rfl, .inr ⟨rfl, a3, n3, k3, (row_cell h1 0 _ rfl).1, ?_⟩⟩
        show P _ _
        rw [hP, hd]
        exact ⟨a3, n3, k3, rfl, hn3, hfr, hNw⟩
  have hmf : ∀ (fn : Fn) (first cap : Array Value) (w : World), (Instr.makeFunc fn first cap).run Try.prog w = .ok (.func fn first cap) w := fun _ _ _ _ => rfl
  clear hb hbo hP HT hrow hs1 hN1
  generalize b.length = L at *
  go_enter Try.func16, Try.ntmps16
  go_wp2_with fail
  go_at_call 29
  with_reducible refine HC.out.mono ?_
  rintro e w1 ⟨a2, n2, k2, y, z, rfl, HZ⟩
  rcases HZ with ⟨hz, HF⟩ | ⟨rfl, a3, n3, k3, hcl, HF⟩
  · go_wp2_with fail
    exact HF.out
  · go_wp2_with fail
    exact HF.out
end Go.Proofs.Ytdeefemeiggolaa
