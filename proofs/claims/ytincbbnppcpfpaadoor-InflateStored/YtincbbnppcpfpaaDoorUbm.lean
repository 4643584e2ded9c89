import Derived.Test.YtincbbnppcpfpaaDoorUbk
import Derived.Test.YtincbbnppcpfpaaDoorUbl
namespace Go.Proofs.YtincbbnppcpfpaaDoor
open Go.RowKit
set_option linter.unusedVariables false
/-! ### The document's examples -/
def ex1 : List By := [75#8, 4#8, 0#8]
def ex2 : List By := [1#8, 1#8, 0#8, 254#8, 255#8, 97#8]
def ex3 : List By := [7#8]
theorem hit97 : Hits fixA (rev 15 137) 97 := by unfold Hits; decide +kernel
theorem hit256 : Hits fixA (rev 15 0) 256 := by unfold Hits; decide +kernel
theorem get97 : fixA.getD 97 0 = 8 := by decide +kernel
theorem get256 : fixA.getD 256 0 = 7 := by decide +kernel
theorem bt1 : bt ex1 0 = ⟨24, 1099⟩ := by
  have h : le ex1 = 1099 := by decide +kernel
  unfold bt; rw [h]; rfl
theorem bt2 : bt ex2 0 = ⟨48, 107752105967873⟩ := by
  have h : le ex2 = 107752105967873 := by decide +kernel
  unfold bt; rw [h]; rfl
theorem bt3 : bt ex3 0 = ⟨8, 7⟩ := by
  have h : le ex3 = 7 := by decide +kernel
  unfold bt; rw [h]; rfl
theorem ex1_run : run 9 ini (bt ex1 0) = ({ ini with lst := true, md := 3, la := fixA, lb := fixB, out := [97#8] }, ⟨0, 0⟩, 0) := by
  rw [bt1]
  have t1 : takeR 1 ⟨24, 1099⟩ = .ok (1, ⟨23, 549⟩) := rfl
  have t2 : takeR 2 ⟨23, 549⟩ = .ok (1, ⟨21, 137⟩) := rfl
  have s1 : stepR 9 ini ⟨24, 1099⟩ = .ok ({ ini with lst := true, md := 2, la := fixA, lb := fixB }, ⟨21, 137⟩) := by
    unfold stepR
    rw [if_pos (show ini.md = 0 from rfl), headR, bindR_eq t1, bindR_eq t2]
    rfl
  have y1 : symR fixA ⟨21, 137⟩ = .ok (97, ⟨13, 0⟩) := by
    rw [symR_hit cod_fixA (t := ⟨21, 137⟩) hit97, get97]; rfl
  have s2 : stepR 9 { ini with lst := true, md := 2, la := fixA, lb := fixB } ⟨21, 137⟩ = .ok ({ ini with lst := true, md := 2, la := fixA, lb := fixB, out := [97#8] }, ⟨13, 0⟩) := by
    unfold stepR
    rw [if_neg (by decide), if_neg (by decide), if_pos rfl, symbolR, bindR_eq y1]
    rfl
  have y2 : symR fixA ⟨13, 0⟩ = .ok (256, ⟨6, 0⟩) := by
    rw [symR_hit cod_fixA (t := ⟨13, 0⟩) hit256, get256]; rfl
  have s3 : stepR 9 { ini with lst := true, md := 2, la := fixA, lb := fixB, out := [97#8] } ⟨13, 0⟩ = .ok ({ ini with lst := true, md := 3, la := fixA, lb := fixB, out := [97#8] }, ⟨0, 0⟩) := by
    unfold stepR
    rw [if_neg (by decide), if_neg (by decide), if_pos rfl, symbolR, bindR_eq y2]
    rfl
  rw [run_ok (by decide) s1, run_ok (by decide) s2, run_ok (by decide) s3, run_end rfl]
theorem ex2_run : run 9 ini (bt ex2 0) = ({ ini with lst := true, md := 3, out := [97#8] }, ⟨0, 0⟩, 0) := by
  rw [bt2]
  have t1 : takeR 1 ⟨48, 107752105967873⟩ = .ok (1, ⟨47, 53876052983936⟩) := rfl
  have t2 : takeR 2 ⟨47, 53876052983936⟩ = .ok (0, ⟨45, 13469013245984⟩) := rfl
  have a1 : alignR ⟨45, 13469013245984⟩ = .ok ((), ⟨40, 420906663937⟩) := rfl
  have t3 : takeR 16 ⟨40, 420906663937⟩ = .ok (1, ⟨24, 6422526⟩) := rfl
  have t4 : takeR 16 ⟨24, 6422526⟩ = .ok (65534, ⟨8, 97⟩) := rfl
  have t5 : takeR 8 ⟨8, 97⟩ = .ok (97, ⟨0, 0⟩) := rfl
  have s1 : stepR 9 ini ⟨48, 107752105967873⟩ = .ok ({ ini with lst := true, md := 1, sto := 1 }, ⟨8, 97⟩) := by
    unfold stepR
    rw [if_pos (show ini.md = 0 from rfl), headR, bindR_eq t1, bindR_eq t2, if_pos rfl, storedR, bindR_eq a1, bindR_eq t3, bindR_eq t4]
    rfl
  have s2 : stepR 9 { ini with lst := true, md := 1, sto := 1 } ⟨8, 97⟩ = .ok ({ ini with lst := true, md := 3, out := [97#8] }, ⟨0, 0⟩) := by
    unfold stepR
    rw [if_neg (by decide), if_pos rfl, byteR, bindR_eq t5]
    rfl
  rw [run_ok (by decide) s1, run_ok (by decide) s2, run_end rfl]
theorem ex3_run : run 9 ini (bt ex3 0) = (ini, ⟨8, 7⟩, 60) := by
  rw [bt3]
  have t1 : takeR 1 ⟨8, 7⟩ = .ok (1, ⟨7, 3⟩) := rfl
  have t2 : takeR 2 ⟨7, 3⟩ = .ok (3, ⟨5, 0⟩) := rfl
  have s1 : stepR 9 ini ⟨8, 7⟩ = .bad 60 := by
    unfold stepR
    rw [if_pos (show ini.md = 0 from rfl), headR, bindR_eq t1, bindR_eq t2]
    rfl
  exact run_bad (by decide) s1
theorem ex1_dec : idec ex1 9 = ([97#8], 3, 0) := by
  unfold idec
  rw [if_neg (by decide), show (9 : Int).toNat = 9 from rfl, ex1_run]
  rfl
theorem ex2_dec : idec ex2 9 = ([97#8], 6, 0) := by
  unfold idec
  rw [if_neg (by decide), show (9 : Int).toNat = 9 from rfl, ex2_run]
  rfl
theorem ex3_dec : idec ex3 9 = ([], 0, 60) := by
  unfold idec
  rw [if_neg (by decide), show (9 : Int).toNat = 9 from rfl, ex3_run]
  rfl
/-- Bytes that stand in the text. -/
theorem old_lit (w : World) (l : List By) (cs : Array Value) (hc : cs = (l.map bv).toArray) (n : Nat) (hn : n = l.length) (hl : n < 100) : Old (w.alloc (.cells cs 5)) (.slice (some ⟨w.heap.size, 0, none⟩) n n) l := by
  subst hc hn
  have hO : Ow w.heap.size (.slice (some ⟨w.heap.size, 0, none⟩) l.length l.length) l (w.alloc (.cells (l.map bv).toArray 5)) := ⟨l, rfl, List.take_length, Nat.le_refl _, by omega, by
    show (w.heap.push _)[w.heap.size]? = _
    simp⟩
  exact hO.old
set_option maxHeartbeats 16000000 in
set_option maxRecDepth 100000 in
theorem ilives_any (w : World) (hT : Tab w) : Calls Tryd.prog 17 #[] w fun e w' => e = .returned (.bool true) ∧ Nw w w' := by
  have H1 : Hid (Calls Tryd.prog 10 #[.slice (some ⟨w.heap.size, 0, none⟩) 3 3, .int .i64 9] (w.alloc (.cells #[.int .u8 75, .int .u8 4, .int .u8 0] 5)) fun e w1 => ∃ a k, e = .returned (.tuple #[.slice a 1 k, .int .i64 3, .int .i64 0]) ∧ Hid (Old w1 (.slice a 1 k) [97#8] ∧ Nw w w1)) := by
    have hN : Nw w (w.alloc (.cells #[.int .u8 75, .int .u8 4, .int .u8 0] 5)) := (Fr.refl _ _).alloc _
    refine (idecode_any _ _ ex1 9 (old_lit w ex1 _ rfl 3 rfl (by decide)) (by decide) (hT.kept hN (fun h => h))).mono ?_
    rw [ex1_dec]
    rintro e w1 ⟨a, k, rfl, h1, h2⟩
    exact ⟨a, k, rfl, h1.old, hN.trans h2⟩
  have H2 : Hid (∀ w1, Nw w w1 → Calls Tryd.prog 10 #[.slice (some ⟨w1.heap.size, 0, none⟩) 6 6, .int .i64 9] (w1.alloc (.cells #[.int .u8 1, .int .u8 1, .int .u8 0, .int .u8 254, .int .u8 255, .int .u8 97] 5)) fun e w2 => ∃ a k, e = .returned (.tuple #[.slice a 1 k, .int .i64 6, .int .i64 0]) ∧ Hid (Old w2 (.slice a 1 k) [97#8] ∧ Nw w1 w2)) := fun w1 h1 => by
    have hN : Nw w1 (w1.alloc (.cells #[.int .u8 1, .int .u8 1, .int .u8 0, .int .u8 254, .int .u8 255, .int .u8 97] 5)) := (Fr.refl _ _).alloc _
    refine (idecode_any _ _ ex2 9 (old_lit w1 ex2 _ rfl 6 rfl (by decide)) (by decide) (hT.kept (h1.trans hN) (fun h => h))).mono ?_
    rw [ex2_dec]
    rintro e w2 ⟨a, k, rfl, h1, h2⟩
    exact ⟨a, k, rfl, h1.old, hN.trans h2⟩
  have H3 : Hid (∀ w2 a1 k1 a2 k2, Nw w w2 → Old w2 (.slice a1 1 k1) [97#8] → Old w2 (.slice a2 1 k2) [97#8] → Calls Tryd.prog 10 #[.slice (some ⟨w2.heap.size, 0, none⟩) 1 1, .int .i64 9] (w2.alloc (.cells #[.int .u8 7] 5)) fun e w3 => ∃ a k, e = .returned (.tuple #[.slice a 0 k, .int .i64 0, .int .i64 60]) ∧ (convert 22 9 (.slice a1 1 k1)).run Tryd.prog w3 = .ok (.string ⟨#[97]⟩) w3 ∧ (convert 22 9 (.slice a2 1 k2)).run Tryd.prog w3 = .ok (.string ⟨#[97]⟩) w3 ∧ Hid (Nw w w3)) := fun w2 a1 k1 a2 k2 h1 g1 g2 => by
    have hN : Nw w2 (w2.alloc (.cells #[.int .u8 7] 5)) := (Fr.refl _ _).alloc _
    refine (idecode_any _ _ ex3 9 (old_lit w2 ex3 _ rfl 1 rfl (by decide)) (by decide) (hT.kept (h1.trans hN) (fun h => h))).mono ?_
    rw [ex3_dec]
    rintro e w3 ⟨a, k, rfl, h3, h4⟩
    exact ⟨a, k, rfl, conv_any (Sl.later g1 (hN.trans h4)), conv_any (Sl.later g2 (hN.trans h4)), (h1.trans hN).trans h4⟩
  clear hT
  go_enter Tryd.func17, Tryd.ntmps17
  go_wp2_with (first | (go_at_call 10; (with_reducible refine H1.out.mono ?_); rintro e w1 ⟨a1, k1, rfl, K1⟩) | (go_at_call 10; (with_reducible refine (H2.out _ K1.out.2).mono ?_); rintro e w2 ⟨a2, k2, rfl, K2⟩) | (go_at_call 10; (with_reducible refine (H3.out _ a1 k1 a2 k2 (K1.out.2.trans K2.out.2) (Sl.later K1.out.1 K2.out.2) K2.out.1).mono ?_); rintro e w3 ⟨a3, k3, rfl, f1, f2, K3⟩))
  go_ret
  exact ⟨rfl, K3.out⟩
end Go.Proofs.YtincbbnppcpfpaaDoor

namespace Go.Proofs.YtincbbnppcpfpaaDoor
open Go.RowKit
set_option linter.unusedVariables false
/-- A copy: append([]byte{}, x...). -/
theorem copyB (w : World) (x : Value) (l : List By) (hx : Old w x l) (hl : l.length ≤ 200000000000000) : ∃ g c W, Hid (∀ ty, (Builtin.append_ #[22, 22] ty #[.slice (some ⟨w.heap.size, 0, none⟩) 0 0, x]).run Tryd.prog (w.alloc (.cells #[] 5)) = .ok (.slice (some ⟨g, 0, none⟩) l.length c) W) ∧ Ow g (.slice (some ⟨g, 0, none⟩) l.length c) l W ∧ w.heap.size ≤ g ∧ Nw w W := by
  obtain ⟨v, g, W, hap, hO, hF, hg⟩ := app_any (w.alloc (.cells #[] 5)) w.heap.size _ [] (Ow.empty w) x l ((hx.nw ((Fr.refl _ _).alloc _)).mono (fun _ h => h.elim)) (by simp; omega)
  rw [List.nil_append] at hO
  have hO' := hO
  obtain ⟨xs, rfl, _⟩ := hO'
  refine ⟨g, xs.length, W, hap, hO, ?_, Fr.then ((Fr.refl _ _).alloc _) hF (fun i hi => .inr (by omega))⟩
  rcases hg with h | h
  · omega
  · simp at h; omega
theorem idec_eq {b : List By} {mo : Nat} (hm : mo ≤ 4194304) : idec b mo = if (run mo ini (bt b 0)).2.2 = 0 then ((run mo ini (bt b 0)).1.out, b.length - ((run mo ini (bt b 0)).2.1.n + 7) / 8, 0) else ([], 0, (run mo ini (bt b 0)).2.2) := by
  rw [idec, if_neg (by omega), Int.toNat_natCast]
theorem idec_err {b : List By} {mo : Nat} (hm : mo ≤ 4194304) (h : (idec b mo).2.2 ≠ 0) : (run mo ini (bt b 0)).2.2 ≠ 0 ∧ idec b mo = ([], 0, (run mo ini (bt b 0)).2.2) := by
  rw [idec_eq hm] at h ⊢
  by_cases e : (run mo ini (bt b 0)).2.2 = 0
  · rw [if_pos e] at h; exact absurd rfl h
  · rw [if_neg e]; exact ⟨e, rfl⟩
theorem idec_fine {b : List By} {mo : Nat} (hm : mo ≤ 4194304) (h : (idec b mo).2.2 = 0) : (run mo ini (bt b 0)).2.2 = 0 ∧ idec b mo = ((run mo ini (bt b 0)).1.out, b.length - ((run mo ini (bt b 0)).2.1.n + 7) / 8, 0) := by
  rw [idec_eq hm] at h ⊢
  by_cases e : (run mo ini (bt b 0)).2.2 = 0
  · rw [if_pos e]; exact ⟨e, rfl⟩
  · rw [if_neg e] at h; exact absurd h e
/-- With more room. -/
theorem idec_more {b : List By} {mo : Nat} (hm : mo ≤ 4194304) (h : (idec b mo).2.2 ≠ 32) : idec b (4194304 : Nat) = idec b mo := by
  have hr : run 4194304 ini (bt b 0) = run mo ini (bt b 0) := by
    refine run_room hm ini _ (fun e => h ?_)
    rw [idec_eq hm, if_neg (by omega)]; exact e
  rw [idec_eq hm, idec_eq (Nat.le_refl _), hr]
/-- What may come out, and how many bytes a stream has. -/
theorem idec_bound {b : List By} {mo : Nat} (hm : mo ≤ 4194304) (h : (idec b mo).2.2 = 0) : (idec b mo).1.length ≤ mo ∧ (idec b mo).1.length ≤ 1032 * b.length ∧ 1 ≤ (idec b mo).2.1 ∧ (idec b mo).2.1 ≤ b.length := by
  obtain ⟨h0, he⟩ := idec_fine hm h
  obtain ⟨a1, a2, a3, a4, _⟩ := run_ad ini (bt b 0) (iv_ini mo _)
  obtain ⟨a5, a6⟩ := a4 h0
  have a7 := a6 (by decide)
  have a8 := a1.en a5
  have a9 := a1.ol
  rw [he]
  have hn : (bt b 0).n = 8 * b.length := by rw [bt_n]; omega
  have ho : ini.out.length = 0 := rfl
  simp only
  omega
set_option maxHeartbeats 40000000 in
set_option maxRecDepth 100000 in
theorem ib_walk (w : World) (ab : Option Addr) (cb : Nat) (b : List By) (most : Int) (hb : Old w (.slice ab b.length cb) b) (hbl : b.length ≤ 140737488351232) (hT : Tab w) :
    Calls Tryd.prog 5 #[.slice ab b.length cb, .int .i64 most] w fun e w' => e = .returned (.bool true) ∧ Nw w w' := by
  obtain ⟨P, hP⟩ : ∃ P : Ending → World → Prop, P = fun e w' => e = .returned (.bool true) ∧ Nw w w' := ⟨_, rfl⟩
  rw [← hP]
  have HT : Hid (∀ V, Nw w V → P (.returned (.bool true)) V) := fun V hV => by rw [hP]; exact ⟨rfl, hV⟩
  clear hP
  have HL : Hid (Calls Tryd.prog 17 #[] w fun e w1 => e = .returned (.bool true) ∧ ∃ g1 c1 W1, Hid (∀ ty, (Builtin.append_ #[22, 22] ty #[.slice (some ⟨w1.heap.size, 0, none⟩) 0 0, .slice ab b.length cb]).run Tryd.prog (w1.alloc (.cells #[] 5)) = .ok (.slice (some ⟨g1, 0, none⟩) b.length c1) W1) ∧ Hid (Calls Tryd.prog 10 #[.slice (some ⟨g1, 0, none⟩) b.length c1, .int .i64 most] W1 fun e w2 => ∃ a2 c2, e = .returned (.tuple #[.slice a2 (idec b most).1.length c2, .int .i64 (idec b most).2.1, .int .i64 (idec b most).2.2]) ∧ Hid (Nw w w2) ∧ ∃ g3 c3 W3, Hid (∀ ty, (Builtin.append_ #[22, 22] ty #[.slice (some ⟨w2.heap.size, 0, none⟩) 0 0, .slice ab b.length cb]).run Tryd.prog (w2.alloc (.cells #[] 5)) = .ok (.slice (some ⟨g3, 0, none⟩) b.length c3) W3) ∧ Hid (Calls Tryd.prog 10 #[.slice (some ⟨g3, 0, none⟩) b.length c3, .int .i64 4194304] W3 fun e w4 => ∃ a4 c4, e = .returned (.tuple #[.slice a4 (idec b (4194304 : Nat)).1.length c4, .int .i64 (idec b (4194304 : Nat)).2.1, .int .i64 (idec b (4194304 : Nat)).2.2]) ∧ (convert 22 9 (.slice a2 (idec b most).1.length c2)).run Tryd.prog w4 = .ok (.string (str (idec b most).1)) w4 ∧ (convert 22 9 (.slice a4 (idec b (4194304 : Nat)).1.length c4)).run Tryd.prog w4 = .ok (.string (str (idec b (4194304 : Nat)).1)) w4 ∧ Hid (Nw w w4)))) := by
    show Calls _ _ _ _ _
    refine (ilives_any w hT).mono ?_
    rintro e w1 ⟨rfl, hN1⟩
    refine ⟨rfl, ?_⟩
    obtain ⟨g1, c1, W1, hap1, hO1, _, hNa⟩ := copyB w1 _ b (Sl.later hb hN1) (by omega)
    refine ⟨g1, c1, W1, hap1, ?_⟩
    show Calls _ _ _ _ _
    refine (idecode_any W1 _ b most hO1.old (by omega) (hT.kept (hN1.trans hNa) (fun h => h))).mono ?_
    rintro e w2 ⟨a2, c2, rfl, hM2, hN2⟩
    have h2 : Nw w w2 := (hN1.trans hNa).trans hN2
    refine ⟨a2, c2, rfl, h2, ?_⟩
    obtain ⟨g3, c3, W3, hap3, hO3, _, hNb⟩ := copyB w2 _ b (Sl.later hb h2) (by omega)
    refine ⟨g3, c3, W3, hap3, ?_⟩
    show Calls _ _ _ _ _
    refine (idecode_any W3 _ b (4194304 : Nat) hO3.old (by omega) (hT.kept (h2.trans hNb) (fun h => h))).mono ?_
    rintro e w4 ⟨a4, c4, rfl, hM4, hN4⟩
    exact ⟨a4, c4, rfl, conv_any (Sl.later (Sl.later hM2.old hNb) hN4), conv_any hM4.old, (h2.trans hNb).trans hN4⟩
  clear hT
  by_cases hm : most < 0 ∨ 4194304 < most
  · have hf : idec b most = ([], 0, 1) := by unfold idec; rw [if_pos hm]
    rw [hf] at HL
    simp only [List.length_nil] at HL
    clear hb
    generalize b.length = L at *
    rcases hm with hm | hm
    · go_enter Tryd.func5, Tryd.ntmps5
      go_wp2_with (first | (go_at_call 17; with_reducible refine HL.out.mono ?_; rintro e w1 ⟨rfl, g1, c1, W1, HAP1, H2⟩) | (at_builtin; refine Lib.wpList_append_run _ rfl _ _ 22 22 rfl (.slice (some ⟨w1.heap.size, 0, none⟩) 0 0) (.slice ab L cb) (by simp [Act.eval]) (by simp [Act.eval]) _ _ (HAP1.out _) ?_) | (go_at_call 10; with_reducible refine H2.out.mono ?_; rintro e w2 ⟨a2, c2, rfl, K2, g3, c3, W3, HAP3, H4⟩))
      exact HT.out _ K2.out
    · have h0 : ¬ most < 0 := by omega
      go_enter Tryd.func5, Tryd.ntmps5
      go_wp2_with (first | (go_at_call 17; with_reducible refine HL.out.mono ?_; rintro e w1 ⟨rfl, g1, c1, W1, HAP1, H2⟩) | (at_builtin; refine Lib.wpList_append_run _ rfl _ _ 22 22 rfl (.slice (some ⟨w1.heap.size, 0, none⟩) 0 0) (.slice ab L cb) (by simp [Act.eval]) (by simp [Act.eval]) _ _ (HAP1.out _) ?_) | (go_at_call 10; with_reducible refine H2.out.mono ?_; rintro e w2 ⟨a2, c2, rfl, K2, g3, c3, W3, HAP3, H4⟩))
      exact HT.out _ K2.out
  · obtain ⟨m, rfl⟩ : ∃ m : Nat, most = m := ⟨most.toNat, by omega⟩
    have hml : m ≤ 4194304 := by omega
    have z0 : ¬ (m : Int) < 0 := by omega
    have z1 : ¬ (4194304 : Int) < (m : Int) := by omega
    by_cases he : (idec b m).2.2 = 0
    · obtain ⟨q1, q2, q3, q4⟩ := idec_bound hml he
      rw [idec_more hml (by omega)] at HL
      obtain ⟨R, n, why, hdec⟩ : ∃ R n why, idec b m = (R, n, why) := ⟨_, _, _, rfl⟩
      rw [hdec] at HL he q1 q2 q3 q4
      simp only at HL he q1 q2 q3 q4
      subst he
      clear hb hdec
      have hz1 : (R.length : Int) ≤ (m : Int) := by omega
      have hz2 : (R.length : Int) ≤ 1032 * (b.length : Int) := by omega
      have hz3 : (1 : Int) ≤ (n : Int) := by omega
      have hz4 : (n : Int) ≤ (b.length : Int) := by omega
      generalize hS : str R = S at *
      clear hS
      generalize R.length = rl at *
      generalize b.length = L at *
      go_enter Tryd.func5, Tryd.ntmps5
      go_wp2_with (first | (go_at_call 17; with_reducible refine HL.out.mono ?_; rintro e w1 ⟨rfl, g1, c1, W1, HAP1, H2⟩) | (at_builtin; refine Lib.wpList_append_run _ rfl _ _ 22 22 rfl (.slice (some ⟨w1.heap.size, 0, none⟩) 0 0) (.slice ab L cb) (by simp [Act.eval]) (by simp [Act.eval]) _ _ (HAP1.out _) ?_) | (go_at_call 10; with_reducible refine H2.out.mono ?_; rintro e w2 ⟨a2, c2, rfl, K2, g3, c3, W3, HAP3, H4⟩) | (at_builtin; refine Lib.wpList_append_run _ rfl _ _ 22 22 rfl (.slice (some ⟨w2.heap.size, 0, none⟩) 0 0) (.slice ab L cb) (by simp [Act.eval]) (by simp [Act.eval]) _ _ (HAP3.out _) ?_) | (go_at_call 10; with_reducible refine H4.out.mono ?_; rintro e w4 ⟨a4, c4, rfl, f1, f2, K4⟩))
      exact HT.out _ K4.out
    · obtain ⟨q1, q2⟩ := idec_err hml he
      by_cases h32 : (idec b m).2.2 = 32
      · obtain ⟨R2, n2, y2, hd2⟩ : ∃ R2 n2 y2, idec b (4194304 : Nat) = (R2, n2, y2) := ⟨_, _, _, rfl⟩
        rw [h32] at HL
        rw [q2, hd2] at HL
        simp only [List.length_nil] at HL
        clear hb he h32 q1 q2 hd2
        have hbo : ∀ B : Bool, (if B = true then true else ((32 : Int) == 32)) = true := fun B => by cases B <;> rfl
        generalize str R2 = S2 at *
        generalize R2.length = rl at *
        generalize b.length = L at *
        by_cases hy : y2 = 32
        · have hyz : ((y2 : Int) == 32) = true := by rw [hy]; rfl
          go_enter Tryd.func5, Tryd.ntmps5
          go_wp2_with (first | (go_at_call 17; with_reducible refine HL.out.mono ?_; rintro e w1 ⟨rfl, g1, c1, W1, HAP1, H2⟩) | (at_builtin; refine Lib.wpList_append_run _ rfl _ _ 22 22 rfl (.slice (some ⟨w1.heap.size, 0, none⟩) 0 0) (.slice ab L cb) (by simp [Act.eval]) (by simp [Act.eval]) _ _ (HAP1.out _) ?_) | (go_at_call 10; with_reducible refine H2.out.mono ?_; rintro e w2 ⟨a2, c2, rfl, K2, g3, c3, W3, HAP3, H4⟩) | (at_builtin; refine Lib.wpList_append_run _ rfl _ _ 22 22 rfl (.slice (some ⟨w2.heap.size, 0, none⟩) 0 0) (.slice ab L cb) (by simp [Act.eval]) (by simp [Act.eval]) _ _ (HAP3.out _) ?_) | (go_at_call 10; with_reducible refine H4.out.mono ?_; rintro e w4 ⟨a4, c4, rfl, f1, f2, K4⟩))
          exact HT.out _ K4.out
        · have hyz : ((y2 : Int) == 32) = false := by simp only [beq_eq_false_iff_ne, ne_eq]; omega
          go_enter Tryd.func5, Tryd.ntmps5
          go_wp2_with (first | (go_at_call 17; with_reducible refine HL.out.mono ?_; rintro e w1 ⟨rfl, g1, c1, W1, HAP1, H2⟩) | (at_builtin; refine Lib.wpList_append_run _ rfl _ _ 22 22 rfl (.slice (some ⟨w1.heap.size, 0, none⟩) 0 0) (.slice ab L cb) (by simp [Act.eval]) (by simp [Act.eval]) _ _ (HAP1.out _) ?_) | (go_at_call 10; with_reducible refine H2.out.mono ?_; rintro e w2 ⟨a2, c2, rfl, K2, g3, c3, W3, HAP3, H4⟩) | (at_builtin; refine Lib.wpList_append_run _ rfl _ _ 22 22 rfl (.slice (some ⟨w2.heap.size, 0, none⟩) 0 0) (.slice ab L cb) (by simp [Act.eval]) (by simp [Act.eval]) _ _ (HAP3.out _) ?_) | (go_at_call 10; with_reducible refine H4.out.mono ?_; rintro e w4 ⟨a4, c4, rfl, f1, f2, K4⟩))
          exact HT.out _ K4.out
      · rw [idec_more hml h32] at HL
        obtain ⟨y, hy⟩ : ∃ y, y = (run m ini (bt b 0)).2.2 := ⟨_, rfl⟩
        rw [← hy] at q1 q2
        rw [q2] at HL
        simp only [List.length_nil] at HL
        clear hb he h32 q2 hy
        have hyz : ((y : Int) != 0) = true := by simp only [bne_iff_ne, ne_eq]; omega
        generalize str [] = S2 at *
        generalize b.length = L at *
        go_enter Tryd.func5, Tryd.ntmps5
        go_wp2_with (first | (go_at_call 17; with_reducible refine HL.out.mono ?_; rintro e w1 ⟨rfl, g1, c1, W1, HAP1, H2⟩) | (at_builtin; refine Lib.wpList_append_run _ rfl _ _ 22 22 rfl (.slice (some ⟨w1.heap.size, 0, none⟩) 0 0) (.slice ab L cb) (by simp [Act.eval]) (by simp [Act.eval]) _ _ (HAP1.out _) ?_) | (go_at_call 10; with_reducible refine H2.out.mono ?_; rintro e w2 ⟨a2, c2, rfl, K2, g3, c3, W3, HAP3, H4⟩) | (at_builtin; refine Lib.wpList_append_run _ rfl _ _ 22 22 rfl (.slice (some ⟨w2.heap.size, 0, none⟩) 0 0) (.slice ab L cb) (by simp [Act.eval]) (by simp [Act.eval]) _ _ (HAP3.out _) ?_) | (go_at_call 10; with_reducible refine H4.out.mono ?_; rintro e w4 ⟨a4, c4, rfl, f1, f2, K4⟩))
        exact HT.out _ K4.out
end Go.Proofs.YtincbbnppcpfpaaDoor
