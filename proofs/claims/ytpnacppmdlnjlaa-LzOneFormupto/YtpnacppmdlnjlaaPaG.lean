import Derived.Test.YtpnacppmdlnjlaaPaF
import Derived.Test.YtpnacppmdlnjlaaPaO
import Derived.Test.YtpnacppmdlnjlaaLzQ
import Derived.Test.YtpnacppmdlnjlaaLzC2
namespace Go.Proofs.Ytpnacppmdlnjlaa
open Go.RowKit
set_option linter.unusedVariables false
theorem lister_tkg (D pb : Nat) : Tkg ls D 63 (.pointer (some ⟨pb, 0, none⟩)) 82 80 81 79 78 (LI D pb) (fun _ => True) (fun s => s.f = 1 ∧ s.l.length ≤ 100000000) where
  mR := fun w => by kernel_rfl
  mP := fun w => by kernel_rfl
  mC := fun w => by kernel_rfl
  mM := fun w => by kernel_rfl
  mE := fun w => by kernel_rfl
  eR := enters_of Try.func82 (by kernel_rfl) rfl
  eP := enters_of Try.func80 (by kernel_rfl) rfl
  eC := enters_of Try.func81 (by kernel_rfl) rfl
  eM := enters_of Try.func79 (by kernel_rfl) rfl
  eE := enters_of Try.func78 (by kernel_rfl) rfl
  grow := fun h f hk => h.keep' f (fun _ h => h.elim) hk
  keep := fun h f hk => h.keep' f (fun k hx => (hk k hx).1) (fun k hk => .inl hk)
  room := fun {s K w} n h _ => lroom_any (D := D) (s := s) (K := K) n
  plain := fun h _ _ hK hu hp _ => lplain_any h hK (by
    obtain ⟨g, hg, hs⟩ := hu
    exact ⟨g, by have := h.lt; have := h.dpb; omega, hs⟩) hp
  reaches := fun {s K w} n h _ => lreaches_any (D := D) (s := s) (K := K) n
  mat := fun back n h hG _ hK _ _ _ _ _ => lmatch_any back n h hK hG.1 hG.2
  fin := fun h hG _ hK => lend_any h hK hG.1 hG.2
/-- What Parse answers. -/
def Parsd (r : List Sq × Nat × Nat) (w : World) (e : Ending) (w' : World) : Prop :=
  ∃ a c gs qs, e = .returned (.tuple #[.slice a r.1.length c, .int .i64 r.2.1, .int .i64 r.2.2]) ∧ SqL (fun k => k < w.heap.size) (.slice a r.1.length c) r.1 gs qs w' ∧ Nw w w'
set_option maxHeartbeats 8000000 in
set_option maxRecDepth 100000 in
theorem parse_any (w : World) (vb : Value) (b : List By) (hb : Old w vb b) (hbl : b.length ≤ 100000000) :
    Calls Try.prog 15 #[vb] w (Parsd (parse b) w) := by
  obtain ⟨P, hP⟩ : ∃ P, P = Parsd (parse b) w := ⟨_, rfl⟩
  rw [← hP]
  have HP : Hid (P = Parsd (parse b) w) := hP
  clear hP
  obtain ⟨a, c, rfl, hc, hc2, hbo⟩ := hb.open
  obtain ⟨W1, hW1⟩ : ∃ W1, w.alloc (.cells #[.slice none 0 0, .slice none 0 0, .int .i64 0, .int .i64 0] 65) = W1 := ⟨_, rfl⟩
  have hN1 : Nw w W1 := by rw [← hW1]; exact (Fr.refl _ _).alloc _
  have hLI : LI w.heap.size w.heap.size ⟨[], ⟨[], 0, 0⟩, 0⟩ (fun k => k < w.heap.size) W1 := by
    refine ⟨⟨.slice none 0 0, [], [], ?_, SqL.nil _ _, fun h => by cases h⟩, fun j hj => ?_, by simp, Nat.le_refl _⟩
    · rw [← hW1]; exact new_cell _ _ _ _ _ rfl
    · obtain rfl | rfl | rfl | rfl : j = 0 ∨ j = 1 ∨ j = 2 ∨ j = 3 := by omega
      all_goals rw [← hW1]
      all_goals exact ⟨_, new_cell _ _ _ _ _ rfl, new_frozen _ _ _ _⟩
  have HS := scan_g (lister_tkg w.heap.size w.heap.size) a c b ⟨[], ⟨[], 0, 0⟩, 0⟩ W1 hN1.size (fun h => by
    obtain ⟨g, o, h1, h2, h3⟩ := hbo h
    exact ⟨g, o, h1, h2, h3.nw hN1⟩) hc hc2 (by omega) hLI (fun i s => s.l.length ≤ i) (by simp) (fun _ _ _ _ => trivial)
    (fun i s r3 s1 low hJ hi hp => by
      obtain ⟨n, k, _, _, _, _, rfl⟩ := plainS_ok hp
      exact ⟨rfl, by show s.l.length ≤ _; omega⟩)
    (fun i s r3 s1 r5 s2 k low lo hJ hi hp hr hm hik hk => by
      obtain ⟨n, k', _, _, _, _, rfl⟩ := plainS_ok hp
      obtain ⟨x, y, r4, n2, k2, _, _, _, _, _, _, rfl⟩ := matchS_ok hm
      show (s.l ++ [_]).length ≤ k
      rw [List.length_append, List.length_singleton]; omega)
  obtain ⟨pb, hpb⟩ : ∃ pb, w.heap.size = pb := ⟨_, rfl⟩
  have hnw : ∀ w2, Fr (fun k => w.heap.size ≤ k) W1 w2 → Nw w w2 := fun w2 hF => hN1.then hF (fun i hi => .inr hi)
  cases hsc : scanS ls b.length b ⟨[], ⟨[], 0, 0⟩, 0⟩ with
  | bad x y =>
    have HS' : Hid (Calls Try.prog 28 #[.slice a b.length c, .iface 63 (.pointer (some ⟨pb, 0, none⟩))] W1 fun e w2 => e = .returned (.tuple #[.int .i64 x, .int .i64 y]) ∧ (¬ (y : Int) = 0) ∧ Hid (P (.returned (.tuple #[.slice none 0 0, .int .i64 x, .int .i64 y])) w2)) := by
      rw [hpb] at HS
      refine HS.mono ?_
      rw [hsc]
      rintro e w2 ⟨hF, rfl, hy⟩
      refine ⟨rfl, by omega, ?_⟩
      show P _ _
      rw [HP.out, parse, hsc]
      exact ⟨_, _, [], [], rfl, SqL.nil _ _, hnw _ (by rw [hpb]; exact hF)⟩
    clear HS HP hLI hb hbo hnw hsc hN1
    go_enter Try.func15, Try.ntmps15
    go_wp2_with (first | (go_at_call 28; with_reducible refine (HS'.out).mono ?_; rintro e w2 ⟨rfl, hy, HF⟩))
    exact HF.out
  | good s =>
    have HS' : Hid (Calls Try.prog 28 #[.slice a b.length c, .iface 63 (.pointer (some ⟨pb, 0, none⟩))] W1 fun e w2 => e = .returned (.tuple #[.int .i64 0, .int .i64 0]) ∧ ∃ vo, w2.cell? ⟨pb, 0, none⟩ = some vo ∧ Hid (P (.returned (.tuple #[vo, .int .i64 0, .int .i64 0])) w2)) := by
      rw [hpb] at HS
      refine HS.mono ?_
      rw [hsc]
      rintro e w2 ⟨hF, rfl, hT⟩
      obtain ⟨v, gs, qs, k1, k2, _⟩ := hT.list
      obtain ⟨a1, c1, rfl, _, _⟩ := k2.form
      refine ⟨rfl, _, k1, ?_⟩
      show P _ _
      rw [HP.out, parse, hsc]
      exact ⟨a1, c1, gs, qs, rfl, k2.more (fun g hg => .inl (.inl (by rw [← hpb]; exact hg))), hnw _ (by rw [hpb]; exact hF)⟩
    clear HS HP hLI hb hbo hnw hsc hN1
    go_enter Try.func15, Try.ntmps15
    go_wp2_with (first | (go_at_call 28; with_reducible refine (HS'.out).mono ?_; rintro e w2 ⟨rfl, vo, hvo, HF⟩))
    exact HF.out
end Go.Proofs.Ytpnacppmdlnjlaa
