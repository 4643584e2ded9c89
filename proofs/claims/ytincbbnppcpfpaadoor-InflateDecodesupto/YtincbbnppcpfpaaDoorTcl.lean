import Derived.Test.YtincbbnppcpfpaaDoorTcj
import Derived.Test.YtincbbnppcpfpaaDoorTck
namespace Go.Proofs.YtincbbnppcpfpaaDoor
open Go.RowKit
set_option linter.unusedVariables false
theorem mine_og {K : Nat → Prop} {v : Value} {l : List By} {w : World} (h : Mine K v l w) : ∃ og, Og og v l w ∧ ∀ g, og = some g → ¬ K g := by
  rcases h with ⟨h1, h2⟩ | ⟨g, h1, h2⟩
  · exact ⟨none, ⟨h1, h2⟩, fun g h => by cases h⟩
  · exact ⟨some g, h2, fun g' h => by injection h with h; subst h; exact h1⟩
set_option maxHeartbeats 16000000 in
set_option maxRecDepth 100000 in
theorem ind_walk (w : World) (ab : Option Addr) (cb : Nat) (b : List By) (most : Int) (hb : Old w (.slice ab b.length cb) b) (hbl : b.length ≤ 1048576) (hT : Tab w) :
    Calls Tryd.prog 3 #[.slice ab b.length cb, .int .i64 most] w fun e w' => e = .returned (.bool true) ∧ Nw w w' := by
  obtain ⟨P, hP⟩ : ∃ P : Ending → World → Prop, P = fun e w' => e = .returned (.bool true) ∧ Nw w w' := ⟨_, rfl⟩
  rw [← hP]
  have HT : Hid (∀ V, Nw w V → P (.returned (.bool true)) V) := fun V hV => by rw [hP]; exact ⟨rfl, hV⟩
  clear hP
  obtain ⟨out, n, y, hid⟩ : ∃ out n y, idec b most = (out, n, y) := ⟨_, _, _, rfl⟩
  have hol : out.length ≤ 4194304 := by
    have : out = (idec b most).1 := by rw [hid]
    rw [this]
    exact idec_len b most
  have HL : Hid (Calls Tryd.prog 9 #[.slice ab b.length cb] w fun e w1 => ∃ g c, e = .returned (.slice (some ⟨g, 0, none⟩) (b.length + 5) c) ∧ b.length + 5 ≤ c ∧ c < 9223372036854775808 ∧ Hid (Calls Tryd.prog 10 #[.slice (some ⟨g, 0, none⟩) b.length c, .int .i64 most] w1 fun e w2 => ∃ a2 c2, e = .returned (.tuple #[.slice a2 out.length c2, .int .i64 n, .int .i64 y]) ∧ Hid (Calls Tryd.prog 10 #[.slice (some ⟨g, 0, none⟩) b.length c, .int .i64 most] w2 fun e w3 => ∃ a3 c3, e = .returned (.tuple #[.slice a3 out.length c3, .int .i64 n, .int .i64 y]) ∧ Hid (Calls Tryd.prog 11 #[.slice ab b.length cb, .int .i64 most] w3 fun e w4 => ∃ a4 c4, e = .returned (.tuple #[.slice a4 out.length c4, .int .i64 n, .int .i64 y]) ∧ Hid (Calls Tryd.prog 12 #[.slice (some ⟨g, 0, none⟩) (b.length + 5) c, .slice ab b.length cb] w4 fun e w5 => e = .returned (.bool true) ∧ Hid (Calls Tryd.prog 13 #[.slice a2 out.length c2, .slice a4 out.length c4] w5 fun e w6 => e = .returned (.bool true) ∧ (convert 22 9 (.slice a3 out.length c3)).run Tryd.prog w6 = .ok (.string (str out)) w6 ∧ (convert 22 9 (.slice a4 out.length c4)).run Tryd.prog w6 = .ok (.string (str out)) w6 ∧ Hid (Nw w w6))))))) := by
    show Calls _ _ _ _ _
    refine (lhand_any w _ b hb (by omega)).mono ?_
    rintro e w1 ⟨g, c, rfl, hO, hg, hN1⟩
    have hOc := hO
    obtain ⟨xs, ex, _, hx3, hx4, _⟩ := hOc
    injection ex with _ _ ex
    have hlm : (b ++ mk5).length = b.length + 5 := by simp [mk5]
    rw [hlm] at hx3
    refine ⟨g, c, rfl, by omega, by omega, ?_⟩
    show Calls _ _ _ _ _
    have hold1 : Old w1 (.slice (some ⟨g, 0, none⟩) b.length c) b := by
      obtain ⟨c', e1, _, _, hcut⟩ := hO.cut b.length (by rw [hlm]; omega)
      rw [hlm] at e1
      injection e1 with _ _ e1
      subst e1
      have := hcut.old
      rw [List.take_left] at this
      exact this
    refine (idecode_any w1 _ b most hold1 (by omega) (hT.kept hN1 (fun h => h))).mono ?_
    rintro e w2 ⟨a2, c2, rfl, hM2, hN2⟩
    rw [hid] at hM2 ⊢
    refine ⟨a2, c2, rfl, ?_⟩
    show Calls _ _ _ _ _
    refine (idecode_any w2 _ b most (Sl.later hold1 hN2) (by omega) (hT.kept (hN1.trans hN2) (fun h => h))).mono ?_
    rintro e w3 ⟨a3, c3, rfl, hM3, hN3⟩
    rw [hid] at hM3 ⊢
    refine ⟨a3, c3, rfl, ?_⟩
    show Calls _ _ _ _ _
    have hN03 := (hN1.trans hN2).trans hN3
    refine (gdecode_any w3 _ b most ((Sl.later hb hN03).mono (fun _ h => h.elim)) (by omega)).mono ?_
    rintro e w4 ⟨a4, c4, og4, rfl, hO4, hg4, hN4⟩
    rw [hid] at hO4 ⊢
    refine ⟨a4, c4, rfl, ?_⟩
    show Calls _ _ _ _ _
    have hN14 : Nw w1 w4 := (hN2.trans hN3).trans hN4
    have hglt : g < w1.heap.size := hO.lt
    refine (lleft_any w4 g (b.length + 5) c _ b ((hb.nw (hN1.trans hN14)).mono (fun k hk => by subst hk; exact hg)) rfl (hO.nw hN14) (by omega)).mono ?_
    rintro e w5 ⟨rfl, f5⟩
    refine ⟨rfl, ?_⟩
    show Calls _ _ _ _ _
    obtain ⟨og2, hO2, hg2⟩ := mine_og hM2
    obtain ⟨og3, hO3, hg3⟩ := mine_og hM3
    have hs2 := hN2.size
    have hs3 := hN3.size
    have hs1 := hN1.size
    have hlt2 := fun g' (h : og2 = some g') => hO2.lt g' h
    have hlt3 := fun g' (h : og3 = some g') => hO3.lt g' h
    have o2 : Og og2 (.slice a2 out.length c2) out w5 := ((hO2.nw hN3).nw hN4).kept f5 (fun g' h e => by have := hg2 g' h; omega)
    have o3 : Og og3 (.slice a3 out.length c3) out w5 := (hO3.nw hN4).kept f5 (fun g' h e => by have := hg3 g' h; omega)
    have o4 : Og og4 (.slice a4 out.length c4) out w5 := hO4.kept f5 (fun g' h e => by have := hg4 g' h; omega)
    refine (lwiped_any w5 og2 _ _ out o2 (o4.sl.mono (fun k hk h => by have := hg4 k h; have := hlt2 k hk; omega)) (by omega)).mono ?_
    rintro e w6 ⟨rfl, f6⟩
    refine ⟨rfl, ?_, ?_, ?_⟩
    · exact conv_any (o3.kept f6 (fun g' h e => by have := hg3 g' h; have := hlt2 g' e; omega)).sl
    · exact conv_any (o4.kept f6 (fun g' h e => by have := hg4 g' h; have := hlt2 g' e; omega)).sl
    · exact Fr.then (Fr.then (hN1.trans hN14) f5 (fun i hi => .inr (by omega))) f6 (fun i hi => .inr (by have := hg2 i hi; omega))
  clear hT hb hid
  generalize str out = S at *
  generalize out.length = OL at *
  obtain ⟨L5, hL5⟩ : ∃ L5, L5 = b.length + 5 := ⟨_, rfl⟩
  have hLL : b.length ≤ L5 := by omega
  rw [← hL5] at HL
  clear hL5
  generalize b.length = L at *
  have hz1 : (L : Int) ≤ (L5 : Int) := by omega
  go_enter Tryd.func3, Tryd.ntmps3
  go_upto_region 2 with (first | (go_at_call 9; with_reducible refine HL.out.mono ?_; rintro e w1 ⟨g, c, rfl, v1, v2, H1⟩))
  have hz2 : (L : Int) ≤ (c : Int) := by omega
  go_wp2_with (first
    | (go_at_call 10; with_reducible refine H1.out.mono ?_; rintro e w2 ⟨a2, c2, rfl, H2⟩)
    | (go_at_call 10; with_reducible refine H2.out.mono ?_; rintro e w3 ⟨a3, c3, rfl, H3⟩)
    | (go_at_call 11; with_reducible refine H3.out.mono ?_; rintro e w4 ⟨a4, c4, rfl, H4⟩)
    | (go_at_call 12; with_reducible refine H4.out.mono ?_; rintro e w5 ⟨rfl, H5⟩)
    | (go_at_call 13; with_reducible refine H5.out.mono ?_; rintro e w6 ⟨rfl, f1, f2, H6⟩))
  exact HT.out _ H6.out
end Go.Proofs.YtincbbnppcpfpaaDoor
