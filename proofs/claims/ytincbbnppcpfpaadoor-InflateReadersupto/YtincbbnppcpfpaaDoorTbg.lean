import Derived.Test.YtincbbnppcpfpaaDoorTbe
import Derived.Test.YtincbbnppcpfpaaDoorTbf
namespace Go.Proofs.YtincbbnppcpfpaaDoor
open Go.RowKit
set_option linter.unusedVariables false
/-! ### The document's examples -/
def ex1 : List By := [75#8, 4#8, 0#8]
def ex2 : List By := [1#8, 1#8, 0#8, 254#8, 255#8, 97#8]
def ex3 : List By := [7#8]
theorem hit97 : Hits fixA (rev 15 137) 97 := by unfold Hits; decide +kernel
theorem hit256 : Hits fixA (rev 15 0) 256 := by unfold Hits; decide +kernel
theorem get97 : fixA.getD 97 0 = 8 := by decide +kernel
theorem get256 : fixA.getD 256 0 = 7 := by decide +kernel
theorem bt1 : bt ex1 0 = ⟨24, 1099⟩ := by
  have h : le ex1 = 1099 := by decide +kernel
  unfold bt; rw [h]; rfl
theorem bt2 : bt ex2 0 = ⟨48, 107752105967873⟩ := by
  have h : le ex2 = 107752105967873 := by decide +kernel
  unfold bt; rw [h]; rfl
theorem bt3 : bt ex3 0 = ⟨8, 7⟩ := by
  have h : le ex3 = 7 := by decide +kernel
  unfold bt; rw [h]; rfl
theorem ex1_run : run 9 ini (bt ex1 0) = ({ ini with lst := true, md := 3, la := fixA, lb := fixB, out := [97#8] }, ⟨0, 0⟩, 0) := by
  rw [bt1]
  have t1 : takeR 1 ⟨24, 1099⟩ = .ok (1, ⟨23, 549⟩) := rfl
  have t2 : takeR 2 ⟨23, 549⟩ = .ok (1, ⟨21, 137⟩) := rfl
  have s1 : stepR 9 ini ⟨24, 1099⟩ = .ok ({ ini with lst := true, md := 2, la := fixA, lb := fixB }, ⟨21, 137⟩) := by
    unfold stepR
    rw [if_pos (show ini.md = 0 from rfl), headR, bindR_eq t1, bindR_eq t2]
    rfl
  have y1 : symR fixA ⟨21, 137⟩ = .ok (97, ⟨13, 0⟩) := by
    rw [symR_hit cod_fixA (t := ⟨21, 137⟩) hit97, get97]; rfl
  have s2 : stepR 9 { ini with lst := true, md := 2, la := fixA, lb := fixB } ⟨21, 137⟩ = .ok ({ ini with lst := true, md := 2, la := fixA, lb := fixB, out := [97#8] }, ⟨13, 0⟩) := by
    unfold stepR
    rw [if_neg (by decide), if_neg (by decide), if_pos rfl, symbolR, bindR_eq y1]
    rfl
  have y2 : symR fixA ⟨13, 0⟩ = .ok (256, ⟨6, 0⟩) := by
    rw [symR_hit cod_fixA (t := ⟨13, 0⟩) hit256, get256]; rfl
  have s3 : stepR 9 { ini with lst := true, md := 2, la := fixA, lb := fixB, out := [97#8] } ⟨13, 0⟩ = .ok ({ ini with lst := true, md := 3, la := fixA, lb := fixB, out := [97#8] }, ⟨0, 0⟩) := by
    unfold stepR
    rw [if_neg (by decide), if_neg (by decide), if_pos rfl, symbolR, bindR_eq y2]
    rfl
  rw [run_ok (by decide) s1, run_ok (by decide) s2, run_ok (by decide) s3, run_end rfl]
theorem ex2_run : run 9 ini (bt ex2 0) = ({ ini with lst := true, md := 3, out := [97#8] }, ⟨0, 0⟩, 0) := by
  rw [bt2]
  have t1 : takeR 1 ⟨48, 107752105967873⟩ = .ok (1, ⟨47, 53876052983936⟩) := rfl
  have t2 : takeR 2 ⟨47, 53876052983936⟩ = .ok (0, ⟨45, 13469013245984⟩) := rfl
  have a1 : alignR ⟨45, 13469013245984⟩ = .ok ((), ⟨40, 420906663937⟩) := rfl
  have t3 : takeR 16 ⟨40, 420906663937⟩ = .ok (1, ⟨24, 6422526⟩) := rfl
  have t4 : takeR 16 ⟨24, 6422526⟩ = .ok (65534, ⟨8, 97⟩) := rfl
  have t5 : takeR 8 ⟨8, 97⟩ = .ok (97, ⟨0, 0⟩) := rfl
  have s1 : stepR 9 ini ⟨48, 107752105967873⟩ = .ok ({ ini with lst := true, md := 1, sto := 1 }, ⟨8, 97⟩) := by
    unfold stepR
    rw [if_pos (show ini.md = 0 from rfl), headR, bindR_eq t1, bindR_eq t2, if_pos rfl, storedR, bindR_eq a1, bindR_eq t3, bindR_eq t4]
    rfl
  have s2 : stepR 9 { ini with lst := true, md := 1, sto := 1 } ⟨8, 97⟩ = .ok ({ ini with lst := true, md := 3, out := [97#8] }, ⟨0, 0⟩) := by
    unfold stepR
    rw [if_neg (by decide), if_pos rfl, byteR, bindR_eq t5]
    rfl
  rw [run_ok (by decide) s1, run_ok (by decide) s2, run_end rfl]
theorem ex3_run : run 9 ini (bt ex3 0) = (ini, ⟨8, 7⟩, 60) := by
  rw [bt3]
  have t1 : takeR 1 ⟨8, 7⟩ = .ok (1, ⟨7, 3⟩) := rfl
  have t2 : takeR 2 ⟨7, 3⟩ = .ok (3, ⟨5, 0⟩) := rfl
  have s1 : stepR 9 ini ⟨8, 7⟩ = .bad 60 := by
    unfold stepR
    rw [if_pos (show ini.md = 0 from rfl), headR, bindR_eq t1, bindR_eq t2]
    rfl
  exact run_bad (by decide) s1
theorem ex1_dec : idec ex1 9 = ([97#8], 3, 0) := by
  unfold idec
  rw [if_neg (by decide), show (9 : Int).toNat = 9 from rfl, ex1_run]
  rfl
theorem ex2_dec : idec ex2 9 = ([97#8], 6, 0) := by
  unfold idec
  rw [if_neg (by decide), show (9 : Int).toNat = 9 from rfl, ex2_run]
  rfl
theorem ex3_dec : idec ex3 9 = ([], 0, 60) := by
  unfold idec
  rw [if_neg (by decide), show (9 : Int).toNat = 9 from rfl, ex3_run]
  rfl
/-- Bytes that stand in the text. -/
theorem old_lit (w : World) (l : List By) (cs : Array Value) (hc : cs = (l.map bv).toArray) (n : Nat) (hn : n = l.length) (hl : n < 100) : Old (w.alloc (.cells cs 5)) (.slice (some ⟨w.heap.size, 0, none⟩) n n) l := by
  subst hc hn
  have hO : Ow w.heap.size (.slice (some ⟨w.heap.size, 0, none⟩) l.length l.length) l (w.alloc (.cells (l.map bv).toArray 5)) := ⟨l, rfl, List.take_length, Nat.le_refl _, by omega, by
    show (w.heap.push _)[w.heap.size]? = _
    simp⟩
  exact hO.old
set_option maxHeartbeats 16000000 in
set_option maxRecDepth 100000 in
theorem ilives_any (w : World) (hT : Tab w) : Calls Tryd.prog 17 #[] w fun e w' => e = .returned (.bool true) ∧ Nw w w' := by
  have H1 : Hid (Calls Tryd.prog 10 #[.slice (some ⟨w.heap.size, 0, none⟩) 3 3, .int .i64 9] (w.alloc (.cells #[.int .u8 75, .int .u8 4, .int .u8 0] 5)) fun e w1 => ∃ a k, e = .returned (.tuple #[.slice a 1 k, .int .i64 3, .int .i64 0]) ∧ Hid (Old w1 (.slice a 1 k) [97#8] ∧ Nw w w1)) := by
    have hN : Nw w (w.alloc (.cells #[.int .u8 75, .int .u8 4, .int .u8 0] 5)) := (Fr.refl _ _).alloc _
    refine (idecode_any _ _ ex1 9 (old_lit w ex1 _ rfl 3 rfl (by decide)) (by decide) (hT.kept hN (fun h => h))).mono ?_
    rw [ex1_dec]
    rintro e w1 ⟨a, k, rfl, h1, h2⟩
    exact ⟨a, k, rfl, h1.old, hN.trans h2⟩
  have H2 : Hid (∀ w1, Nw w w1 → Calls Tryd.prog 10 #[.slice (some ⟨w1.heap.size, 0, none⟩) 6 6, .int .i64 9] (w1.alloc (.cells #[.int .u8 1, .int .u8 1, .int .u8 0, .int .u8 254, .int .u8 255, .int .u8 97] 5)) fun e w2 => ∃ a k, e = .returned (.tuple #[.slice a 1 k, .int .i64 6, .int .i64 0]) ∧ Hid (Old w2 (.slice a 1 k) [97#8] ∧ Nw w1 w2)) := fun w1 h1 => by
    have hN : Nw w1 (w1.alloc (.cells #[.int .u8 1, .int .u8 1, .int .u8 0, .int .u8 254, .int .u8 255, .int .u8 97] 5)) := (Fr.refl _ _).alloc _
    refine (idecode_any _ _ ex2 9 (old_lit w1 ex2 _ rfl 6 rfl (by decide)) (by decide) (hT.kept (h1.trans hN) (fun h => h))).mono ?_
    rw [ex2_dec]
    rintro e w2 ⟨a, k, rfl, h1, h2⟩
    exact ⟨a, k, rfl, h1.old, hN.trans h2⟩
  have H3 : Hid (∀ w2 a1 k1 a2 k2, Nw w w2 → Old w2 (.slice a1 1 k1) [97#8] → Old w2 (.slice a2 1 k2) [97#8] → Calls Tryd.prog 10 #[.slice (some ⟨w2.heap.size, 0, none⟩) 1 1, .int .i64 9] (w2.alloc (.cells #[.int .u8 7] 5)) fun e w3 => ∃ a k, e = .returned (.tuple #[.slice a 0 k, .int .i64 0, .int .i64 60]) ∧ (convert 22 9 (.slice a1 1 k1)).run Tryd.prog w3 = .ok (.string ⟨#[97]⟩) w3 ∧ (convert 22 9 (.slice a2 1 k2)).run Tryd.prog w3 = .ok (.string ⟨#[97]⟩) w3 ∧ Hid (Nw w w3)) := fun w2 a1 k1 a2 k2 h1 g1 g2 => by
    have hN : Nw w2 (w2.alloc (.cells #[.int .u8 7] 5)) := (Fr.refl _ _).alloc _
    refine (idecode_any _ _ ex3 9 (old_lit w2 ex3 _ rfl 1 rfl (by decide)) (by decide) (hT.kept (h1.trans hN) (fun h => h))).mono ?_
    rw [ex3_dec]
    rintro e w3 ⟨a, k, rfl, h3, h4⟩
    exact ⟨a, k, rfl, conv_any (Sl.later g1 (hN.trans h4)), conv_any (Sl.later g2 (hN.trans h4)), (h1.trans hN).trans h4⟩
  clear hT
  go_enter Tryd.func17, Tryd.ntmps17
  go_wp2_with (first | (go_at_call 10; (with_reducible refine H1.out.mono ?_); rintro e w1 ⟨a1, k1, rfl, K1⟩) | (go_at_call 10; (with_reducible refine (H2.out _ K1.out.2).mono ?_); rintro e w2 ⟨a2, k2, rfl, K2⟩) | (go_at_call 10; (with_reducible refine (H3.out _ a1 k1 a2 k2 (K1.out.2.trans K2.out.2) (Sl.later K1.out.1 K2.out.2) K2.out.1).mono ?_); rintro e w3 ⟨a3, k3, rfl, f1, f2, K3⟩))
  go_ret
  exact ⟨rfl, K3.out⟩
end Go.Proofs.YtincbbnppcpfpaaDoor

namespace Go.Proofs.YtincbbnppcpfpaaDoor
open Go.RowKit
set_option linter.unusedVariables false
/-- A copy: append([]byte{}, x...). -/
theorem copyB (w : World) (x : Value) (l : List By) (hx : Old w x l) (hl : l.length ≤ 200000000000000) : ∃ g c W, Hid (∀ ty, (Builtin.append_ #[22, 22] ty #[.slice (some ⟨w.heap.size, 0, none⟩) 0 0, x]).run Tryd.prog (w.alloc (.cells #[] 5)) = .ok (.slice (some ⟨g, 0, none⟩) l.length c) W) ∧ Ow g (.slice (some ⟨g, 0, none⟩) l.length c) l W ∧ w.heap.size ≤ g ∧ Nw w W := by
  obtain ⟨v, g, W, hap, hO, hF, hg⟩ := app_any (w.alloc (.cells #[] 5)) w.heap.size _ [] (Ow.empty w) x l ((hx.nw ((Fr.refl _ _).alloc _)).mono (fun _ h => h.elim)) (by simp; omega)
  rw [List.nil_append] at hO
  have hO' := hO
  obtain ⟨xs, rfl, _⟩ := hO'
  refine ⟨g, xs.length, W, hap, hO, ?_, Fr.then ((Fr.refl _ _).alloc _) hF (fun i hi => .inr (by omega))⟩
  rcases hg with h | h
  · omega
  · simp at h; omega
theorem idec_eq {b : List By} {mo : Nat} (hm : mo ≤ 4194304) : idec b mo = if (run mo ini (bt b 0)).2.2 = 0 then ((run mo ini (bt b 0)).1.out, b.length - ((run mo ini (bt b 0)).2.1.n + 7) / 8, 0) else ([], 0, (run mo ini (bt b 0)).2.2) := by
  rw [idec, if_neg (by omega), Int.toNat_natCast]
theorem idec_err {b : List By} {mo : Nat} (hm : mo ≤ 4194304) (h : (idec b mo).2.2 ≠ 0) : (run mo ini (bt b 0)).2.2 ≠ 0 ∧ idec b mo = ([], 0, (run mo ini (bt b 0)).2.2) := by
  rw [idec_eq hm] at h ⊢
  by_cases e : (run mo ini (bt b 0)).2.2 = 0
  · rw [if_pos e] at h; exact absurd rfl h
  · rw [if_neg e]; exact ⟨e, rfl⟩
theorem idec_fine {b : List By} {mo : Nat} (hm : mo ≤ 4194304) (h : (idec b mo).2.2 = 0) : (run mo ini (bt b 0)).2.2 = 0 ∧ idec b mo = ((run mo ini (bt b 0)).1.out, b.length - ((run mo ini (bt b 0)).2.1.n + 7) / 8, 0) := by
  rw [idec_eq hm] at h ⊢
  by_cases e : (run mo ini (bt b 0)).2.2 = 0
  · rw [if_pos e]; exact ⟨e, rfl⟩
  · rw [if_neg e] at h; exact absurd h e
/-- With more room. -/
theorem idec_more {b : List By} {mo : Nat} (hm : mo ≤ 4194304) (h : (idec b mo).2.2 ≠ 32) : idec b (4194304 : Nat) = idec b mo := by
  have hr : run 4194304 ini (bt b 0) = run mo ini (bt b 0) := by
    refine run_room hm ini _ (fun e => h ?_)
    rw [idec_eq hm, if_neg (by omega)]; exact e
  rw [idec_eq hm, idec_eq (Nat.le_refl _), hr]
/-- What may come out, and how many bytes a stream has. -/
theorem idec_bound {b : List By} {mo : Nat} (hm : mo ≤ 4194304) (h : (idec b mo).2.2 = 0) : (idec b mo).1.length ≤ mo ∧ (idec b mo).1.length ≤ 1032 * b.length ∧ 1 ≤ (idec b mo).2.1 ∧ (idec b mo).2.1 ≤ b.length := by
  obtain ⟨h0, he⟩ := idec_fine hm h
  obtain ⟨a1, a2, a3, a4, _⟩ := run_ad ini (bt b 0) (iv_ini mo _)
  obtain ⟨a5, a6⟩ := a4 h0
  have a7 := a6 (by decide)
  have a8 := a1.en a5
  have a9 := a1.ol
  rw [he]
  have hn : (bt b 0).n = 8 * b.length := by rw [bt_n]; omega
  have ho : ini.out.length = 0 := rfl
  simp only
  omega
set_option maxHeartbeats 40000000 in
set_option maxRecDepth 100000 in
theorem ib_walk (w : World) (ab : Option Addr) (cb : Nat) (b : List By) (most : Int) (hb : Old w (.slice ab b.length cb) b) (hbl : b.length ≤ 140737488351232) (hT : Tab w) :
    Calls Tryd.prog 5 #[.slice ab b.length cb, .int .i64 most] w fun e w' => e = .returned (.bool true) ∧ Nw w w' := by
  obtain ⟨P, hP⟩ : ∃ P : Ending → World → Prop, P = fun e w' => e = .returned (.bool true) ∧ Nw w w' := ⟨_, rfl⟩
  rw [← hP]
  have HT : Hid (∀ V, Nw w V → P (.returned (.bool true)) V) := fun V hV => by rw [hP]; exact ⟨rfl, hV⟩
  clear hP
  have HL : Hid (Calls Tryd.prog 17 #[] w fun e w1 => e = .returned (.bool true) ∧ ∃ g1 c1 W1, Hid (∀ ty, (Builtin.append_ #[22, 22] ty #[.slice (some ⟨w1.heap.size, 0, none⟩) 0 0, .slice ab b.length cb]).run Tryd.prog (w1.alloc (.cells #[] 5)) = .ok (.slice (some ⟨g1, 0, none⟩) b.length c1) W1) ∧ Hid (Calls Tryd.prog 10 #[.slice (some ⟨g1, 0, none⟩) b.length c1, .int .i64 most] W1 fun e w2 => ∃ a2 c2, e = .returned (.tuple #[.slice a2 (idec b most).1.length c2, .int .i64 (idec b most).2.1, .int .i64 (idec b most).2.2]) ∧ Hid (Nw w w2) ∧ ∃ g3 c3 W3, Hid (∀ ty, (Builtin.append_ #[22, 22] ty #[.slice (some ⟨w2.heap.size, 0, none⟩) 0 0, .slice ab b.length cb]).run Tryd.prog (w2.alloc (.cells #[] 5)) = .ok (.slice (some ⟨g3, 0, none⟩) b.length c3) W3) ∧ Hid (Calls Tryd.prog 10 #[.slice (some ⟨g3, 0, none⟩) b.length c3, .int .i64 4194304] W3 fun e w4 => ∃ a4 c4, e = .returned (.tuple #[.slice a4 (idec b (4194304 : Nat)).1.length c4, .int .i64 (idec b (4194304 : Nat)).2.1, .int .i64 (idec b (4194304 : Nat)).2.2]) ∧ (convert 22 9 (.slice a2 (idec b most).1.length c2)).run Tryd.prog w4 = .ok (.string (str (idec b most).1)) w4 ∧ (convert 22 9 (.slice a4 (idec b (4194304 : Nat)).1.length c4)).run Tryd.prog w4 = .ok (.string (str (idec b (4194304 : Nat)).1)) w4 ∧ Hid (Nw w w4)))) := by
    show Calls _ _ _ _ _
    refine (ilives_any w hT).mono ?_
    rintro e w1 ⟨rfl, hN1⟩
    refine ⟨rfl, ?_⟩
    obtain ⟨g1, c1, W1, hap1, hO1, _, hNa⟩ := copyB w1 _ b (Sl.later hb hN1) (by omega)
    refine ⟨g1, c1, W1, hap1, ?_⟩
    show Calls _ _ _ _ _
    refine (idecode_any W1 _ b most hO1.old (by omega) (hT.kept (hN1.trans hNa) (fun h => h))).mono ?_
    rintro e w2 ⟨a2, c2, rfl, hM2, hN2⟩
    have h2 : Nw w w2 := (hN1.trans hNa).trans hN2
    refine ⟨a2, c2, rfl, h2, ?_⟩
    obtain ⟨g3, c3, W3, hap3, hO3, _, hNb⟩ := copyB w2 _ b (Sl.later hb h2) (by omega)
    refine ⟨g3, c3, W3, hap3, ?_⟩
    show Calls _ _ _ _ _
    refine (idecode_any W3 _ b (4194304 : Nat) hO3.old (by omega) (hT.kept (h2.trans hNb) (fun h => h))).mono ?_
    rintro e w4 ⟨a4, c4, rfl, hM4, hN4⟩
    exact ⟨a4, c4, rfl, conv_any (Sl.later (Sl.later hM2.old hNb) hN4), conv_any hM4.old, (h2.trans hNb).trans hN4⟩
  clear hT
  by_cases hm : most < 0 ∨ 4194304 < most
  · have hf : idec b most = ([], 0, 1) := by unfold idec; rw [if_pos hm]
    rw [hf] at HL
    simp only [List.length_nil] at HL
    clear hb
    generalize b.length = L at *
    rcases hm with hm | hm
    · go_enter Tryd.func5, Tryd.ntmps5
      go_wp2_with (first | (go_at_call 17; with_reducible refine HL.out.mono ?_; rintro e w1 ⟨rfl, g1, c1, W1, HAP1, H2⟩) | (at_builtin; refine Lib.wpList_append_run _ rfl _ _ 22 22 rfl (.slice (some ⟨w1.heap.size, 0, none⟩) 0 0) (.slice ab L cb) (by simp [Act.eval]) (by simp [Act.eval]) _ _ (HAP1.out _) ?_) | (go_at_call 10; with_reducible refine H2.out.mono ?_; rintro e w2 ⟨a2, c2, rfl, K2, g3, c3, W3, HAP3, H4⟩))
      exact HT.out _ K2.out
    · have h0 : ¬ most < 0 := by omega
      go_enter Tryd.func5, Tryd.ntmps5
      go_wp2_with (first | (go_at_call 17; with_reducible refine HL.out.mono ?_; rintro e w1 ⟨rfl, g1, c1, W1, HAP1, H2⟩) | (at_builtin; refine Lib.wpList_append_run _ rfl _ _ 22 22 rfl (.slice (some ⟨w1.heap.size, 0, none⟩) 0 0) (.slice ab L cb) (by simp [Act.eval]) (by simp [Act.eval]) _ _ (HAP1.out _) ?_) | (go_at_call 10; with_reducible refine H2.out.mono ?_; rintro e w2 ⟨a2, c2, rfl, K2, g3, c3, W3, HAP3, H4⟩))
      exact HT.out _ K2.out
  · obtain ⟨m, rfl⟩ : ∃ m : Nat, most = m := ⟨most.toNat, by omega⟩
    have hml : m ≤ 4194304 := by omega
    have z0 : ¬ (m : Int) < 0 := by omega
    have z1 : ¬ (4194304 : Int) < (m : Int) := by omega
    by_cases he : (idec b m).2.2 = 0
    · obtain ⟨q1, q2, q3, q4⟩ := idec_bound hml he
      rw [idec_more hml (by omega)] at HL
      obtain ⟨R, n, why, hdec⟩ : ∃ R n why, idec b m = (R, n, why) := ⟨_, _, _, rfl⟩
      rw [hdec] at HL he q1 q2 q3 q4
      simp only at HL he q1 q2 q3 q4
      subst he
      clear hb hdec
      have hz1 : (R.length : Int) ≤ (m : Int) := by omega
      have hz2 : (R.length : Int) ≤ 1032 * (b.length : Int) := by omega
      have hz3 : (1 : Int) ≤ (n : Int) := by omega
      have hz4 : (n : Int) ≤ (b.length : Int) := by omega
      generalize hS : str R = S at *
      clear hS
      generalize R.length = rl at *
      generalize b.length = L at *
      go_enter Tryd.func5, Tryd.ntmps5
      go_wp2_with (first | (go_at_call 17; with_reducible refine HL.out.mono ?_; rintro e w1 ⟨rfl, g1, c1, W1, HAP1, H2⟩) | (at_builtin; refine Lib.wpList_append_run _ rfl _ _ 22 22 rfl (.slice (some ⟨w1.heap.size, 0, none⟩) 0 0) (.slice ab L cb) (by simp [Act.eval]) (by simp [Act.eval]) _ _ (HAP1.out _) ?_) | (go_at_call 10; with_reducible refine H2.out.mono ?_; rintro e w2 ⟨a2, c2, rfl, K2, g3, c3, W3, HAP3, H4⟩) | (at_builtin; refine Lib.wpList_append_run _ rfl _ _ 22 22 rfl (.slice (some ⟨w2.heap.size, 0, none⟩) 0 0) (.slice ab L cb) (by simp [Act.eval]) (by simp [Act.eval]) _ _ (HAP3.out _) ?_) | (go_at_call 10; with_reducible refine H4.out.mono ?_; rintro e w4 ⟨a4, c4, rfl, f1, f2, K4⟩))
      exact HT.out _ K4.out
    · obtain ⟨q1, q2⟩ := idec_err hml he
      by_cases h32 : (idec b m).2.2 = 32
      · obtain ⟨R2, n2, y2, hd2⟩ : ∃ R2 n2 y2, idec b (4194304 : Nat) = (R2, n2, y2) := ⟨_, _, _, rfl⟩
        rw [h32] at HL
        rw [q2, hd2] at HL
        simp only [List.length_nil] at HL
        clear hb he h32 q1 q2 hd2
        have hbo : ∀ B : Bool, (if B = true then true else ((32 : Int) == 32)) = true := fun B => by cases B <;> rfl
        generalize str R2 = S2 at *
        generalize R2.length = rl at *
        generalize b.length = L at *
        by_cases hy : y2 = 32
        · have hyz : ((y2 : Int) == 32) = true := by rw [hy]; rfl
          go_enter Tryd.func5, Tryd.ntmps5
          go_wp2_with (first | (go_at_call 17; with_reducible refine HL.out.mono ?_; rintro e w1 ⟨rfl, g1, c1, W1, HAP1, H2⟩) | (at_builtin; refine Lib.wpList_append_run _ rfl _ _ 22 22 rfl (.slice (some ⟨w1.heap.size, 0, none⟩) 0 0) (.slice ab L cb) (by simp [Act.eval]) (by simp [Act.eval]) _ _ (HAP1.out _) ?_) | (go_at_call 10; with_reducible refine H2.out.mono ?_; rintro e w2 ⟨a2, c2, rfl, K2, g3, c3, W3, HAP3, H4⟩) | (at_builtin; refine Lib.wpList_append_run _ rfl _ _ 22 22 rfl (.slice (some ⟨w2.heap.size, 0, none⟩) 0 0) (.slice ab L cb) (by simp [Act.eval]) (by simp [Act.eval]) _ _ (HAP3.out _) ?_) | (go_at_call 10; with_reducible refine H4.out.mono ?_; rintro e w4 ⟨a4, c4, rfl, f1, f2, K4⟩))
          exact HT.out _ K4.out
        · have hyz : ((y2 : Int) == 32) = false := by simp only [beq_eq_false_iff_ne, ne_eq]; omega
          go_enter Tryd.func5, Tryd.ntmps5
          go_wp2_with (first | (go_at_call 17; with_reducible refine HL.out.mono ?_; rintro e w1 ⟨rfl, g1, c1, W1, HAP1, H2⟩) | (at_builtin; refine Lib.wpList_append_run _ rfl _ _ 22 22 rfl (.slice (some ⟨w1.heap.size, 0, none⟩) 0 0) (.slice ab L cb) (by simp [Act.eval]) (by simp [Act.eval]) _ _ (HAP1.out _) ?_) | (go_at_call 10; with_reducible refine H2.out.mono ?_; rintro e w2 ⟨a2, c2, rfl, K2, g3, c3, W3, HAP3, H4⟩) | (at_builtin; refine Lib.wpList_append_run _ rfl _ _ 22 22 rfl (.slice (some ⟨w2.heap.size, 0, none⟩) 0 0) (.slice ab L cb) (by simp [Act.eval]) (by simp [Act.eval]) _ _ (HAP3.out _) ?_) | (go_at_call 10; with_reducible refine H4.out.mono ?_; rintro e w4 ⟨a4, c4, rfl, f1, f2, K4⟩))
          exact HT.out _ K4.out
      · rw [idec_more hml h32] at HL
        obtain ⟨y, hy⟩ : ∃ y, y = (run m ini (bt b 0)).2.2 := ⟨_, rfl⟩
        rw [← hy] at q1 q2
        rw [q2] at HL
        simp only [List.length_nil] at HL
        clear hb he h32 q2 hy
        have hyz : ((y : Int) != 0) = true := by simp only [bne_iff_ne, ne_eq]; omega
        generalize str [] = S2 at *
        generalize b.length = L at *
        go_enter Tryd.func5, Tryd.ntmps5
        go_wp2_with (first | (go_at_call 17; with_reducible refine HL.out.mono ?_; rintro e w1 ⟨rfl, g1, c1, W1, HAP1, H2⟩) | (at_builtin; refine Lib.wpList_append_run _ rfl _ _ 22 22 rfl (.slice (some ⟨w1.heap.size, 0, none⟩) 0 0) (.slice ab L cb) (by simp [Act.eval]) (by simp [Act.eval]) _ _ (HAP1.out _) ?_) | (go_at_call 10; with_reducible refine H2.out.mono ?_; rintro e w2 ⟨a2, c2, rfl, K2, g3, c3, W3, HAP3, H4⟩) | (at_builtin; refine Lib.wpList_append_run _ rfl _ _ 22 22 rfl (.slice (some ⟨w2.heap.size, 0, none⟩) 0 0) (.slice ab L cb) (by simp [Act.eval]) (by simp [Act.eval]) _ _ (HAP3.out _) ?_) | (go_at_call 10; with_reducible refine H4.out.mono ?_; rintro e w4 ⟨a4, c4, rfl, f1, f2, K4⟩))
        exact HT.out _ K4.out
end Go.Proofs.YtincbbnppcpfpaaDoor

namespace Go.Proofs.YtincbbnppcpfpaaDoor
open Go.RowKit
set_option linter.unusedVariables false
/-- Bits behind whole bytes. -/
theorem bt_drop (b : List By) (k : Nat) (hk : k ≤ b.length) : bt b (8 * k) = bt (b.drop k) 0 := by
  unfold bt
  simp only [Bt.mk.injEq]
  refine ⟨by rw [List.length_drop]; omega, ?_⟩
  rw [le_drop, pow256, Nat.pow_zero, Nat.div_one]
theorem takeR_bt (b : List By) (p k : Nat) (h : p + k ≤ 8 * b.length) : takeR k (bt b p) = .ok (le b / 2 ^ p % 2 ^ k, bt b (p + k)) := by
  rw [← bt_rest]
  unfold takeR
  rw [if_neg (by rw [bt_n]; omega), bt_x]
/-- A stored block's head. -/
def shead (l : Nat) (n : Nat) : List By := [BitVec.ofNat 8 l, BitVec.ofNat 8 n, BitVec.ofNat 8 (n / 256), BitVec.ofNat 8 (255 - n % 256), BitVec.ofNat 8 (255 - n / 256)]
theorem shead_run (most l : Nat) (s : Sx) (n : Nat) (rest : List By) (hl : l = 0 ∨ l = 1) (hm : s.md = 0) (hn : n ≤ 65535) (hr : n ≤ most - s.out.length) :
    stepR most s (bt (shead l n ++ rest) 0) = (if n = 0 then endB { s with lst := decide (l = 1), md := 1, sto := 0 } else retR { s with lst := decide (l = 1), md := 1, sto := n }) (bt (shead l n ++ rest) 40) := by
  obtain ⟨r, hrr⟩ : ∃ r, r = shead l n ++ rest := ⟨_, rfl⟩
  have hlen : 5 ≤ r.length := by rw [hrr]; simp [shead]
  have hle : le r = l + 256 * (n % 256 + 256 * (n / 256 + 256 * ((255 - n % 256) + 256 * ((255 - n / 256) + 256 * le rest)))) := by
    rw [hrr]
    simp only [shead, List.cons_append, List.nil_append, le, BitVec.toNat_ofNat]
    omega
  rw [← hrr]
  obtain ⟨a0, ha0⟩ : ∃ a0, a0 = n % 256 := ⟨_, rfl⟩
  obtain ⟨a1, ha1⟩ : ∃ a1, a1 = n / 256 := ⟨_, rfl⟩
  rw [← ha0, ← ha1] at hle
  obtain ⟨c0, hc0⟩ : ∃ c0, c0 = 255 - a0 := ⟨_, rfl⟩
  obtain ⟨c1, hc1⟩ : ∃ c1, c1 = 255 - a1 := ⟨_, rfl⟩
  rw [← hc0, ← hc1] at hle
  have hle2 : le r = l + 256 * a0 + 65536 * a1 + 16777216 * c0 + 4294967296 * c1 + 1099511627776 * le rest := by rw [hle]; omega
  have b0 : a0 ≤ 255 := by omega
  have b1 : a1 ≤ 255 := by omega
  have b2 : c0 + a0 = 255 := by omega
  have b3 : c1 + a1 = 255 := by omega
  have b4 : n = a0 + 256 * a1 := by omega
  have b5 : l ≤ 1 := by omega
  clear hle ha0 ha1 hc0 hc1
  generalize le rest = R at *
  have e1 : le r / 2 ^ 0 % 2 ^ 1 = l := by
    rw [hle2, show (2 : Nat) ^ 0 = 1 from rfl, show (2 : Nat) ^ 1 = 2 from rfl]; omega
  have e2 : le r / 2 ^ 1 % 2 ^ 2 = 0 := by
    rw [hle2, show (2 : Nat) ^ 1 = 2 from rfl, show (2 : Nat) ^ 2 = 4 from rfl]; omega
  have e3 : le r / 2 ^ 8 % 2 ^ 16 = n := by
    rw [hle2, show (2 : Nat) ^ 8 = 256 from rfl, show (2 : Nat) ^ 16 = 65536 from rfl]; omega
  have e4 : le r / 2 ^ 24 % 2 ^ 16 = 65535 - n := by
    have q1 : le r = (l + 256 * a0 + 65536 * a1) + 16777216 * ((c0 + 256 * c1) + 65536 * R) := by rw [hle2]; omega
    rw [q1, show (2 : Nat) ^ 24 = 16777216 from rfl, show (2 : Nat) ^ 16 = 65536 from rfl, Nat.add_mul_div_left _ _ (by decide), Nat.div_eq_of_lt (by omega), Nat.zero_add, Nat.add_mul_mod_self_left, Nat.mod_eq_of_lt (by omega)]
    omega
  have t1 := takeR_bt r 0 1 (by omega)
  have t2 := takeR_bt r 1 2 (by omega)
  have t3 := (alignR_bt r 3 (by omega)).1
  have t4 := takeR_bt r 8 16 (by omega)
  have t5 := takeR_bt r 24 16 (by omega)
  rw [e1] at t1
  rw [e2] at t2
  rw [show up8 3 = 8 from rfl] at t3
  rw [e3] at t4
  rw [e4] at t5
  rw [stepR, if_pos hm, headR, bindR_eq t1, bindR_eq t2, if_pos rfl, storedR, bindR_eq t3, bindR_eq t4, bindR_eq t5, if_neg (by omega), if_neg (by simp only; omega)]
/-- A stored block that is not the last. -/
theorem stored_one (most : Nat) (s : Sx) (x rest : List By) (hm : s.md = 0) (hn : x.length ≤ 65535) (hr : x.length ≤ most - s.out.length) :
    ∃ s', run most s (bt (shead 0 x.length ++ x ++ rest) 0) = run most s' (bt rest 0) ∧ s'.md = 0 ∧ s'.out = s.out ++ x := by
  rw [List.append_assoc]
  have h1 := shead_run most 0 s x.length (x ++ rest) (.inl rfl) hm hn hr
  obtain ⟨r, hrr⟩ : ∃ r, r = shead 0 x.length ++ (x ++ rest) := ⟨_, rfl⟩
  have hlen : r.length = 5 + x.length + rest.length := by rw [hrr]; simp [shead]; omega
  rw [← hrr] at h1 ⊢
  have hd5 : r.drop 5 = x ++ rest := by rw [hrr]; rfl
  have hend : bt r (40 + 8 * x.length) = bt rest 0 := by
    rw [show 40 + 8 * x.length = 8 * (5 + x.length) by omega, bt_drop r (5 + x.length) (by omega), ← List.drop_drop, hd5, List.drop_left]
  by_cases h0 : x.length = 0
  · obtain rfl : x = [] := List.eq_nil_of_length_eq_zero h0
    rw [if_pos (show ([] : List By).length = 0 from rfl)] at h1
    have h2 : endB { s with lst := decide (0 = 1), md := 1, sto := 0 } (bt r 40) = .ok ({ s with lst := false, md := 0, sto := 0 }, bt r 40) := rfl
    rw [h2] at h1
    refine ⟨{ s with lst := false, md := 0, sto := 0 }, (run_ok (by omega) h1).trans ?_, rfl, (List.append_nil _).symm⟩
    rw [← hend]; rfl
  · rw [if_neg h0] at h1
    have h2 := run_ok (most := most) (by omega) (show stepR most s (bt r 0) = .ok ({ s with lst := decide (0 = 1), md := 1, sto := x.length }, bt r 40) from h1)
    obtain ⟨_, h3⟩ := bytes_run most r x.length 40 { s with lst := decide (0 = 1), md := 1, sto := x.length } rfl (by omega) (Nat.le_refl _) (by omega)
    have hlo : lows (le r / 2 ^ 40) x.length = x := by
      have := lows_tk r 5 x.length (by omega)
      rw [hd5, List.take_left] at this
      exact this.symm
    rw [hlo] at h3
    have h4 := h3 rfl { s with lst := false, md := 0, sto := 0, out := s.out ++ x } (bt r (40 + 8 * x.length)) rfl
    exact ⟨_, (h2.trans h4).trans (by rw [hend]), rfl, rfl⟩
/-- The last one, of no bytes. -/
theorem stored_last (most : Nat) (s : Sx) (rest : List By) (hm : s.md = 0) : ∃ s', run most s (bt (shead 1 0 ++ rest) 0) = (s', bt rest 0, 0) ∧ s'.out = s.out := by
  have h1 := shead_run most 1 s 0 rest (.inr rfl) hm (by decide) (by omega)
  rw [if_pos rfl] at h1
  have hlen : (shead 1 0 ++ rest).length = 5 + rest.length := by simp [shead]; omega
  obtain ⟨z1, z2⟩ := alignR_bt (shead 1 0 ++ rest) 40 (by omega)
  have h2 : endB { s with lst := decide (1 = 1), md := 1, sto := 0 } (bt (shead 1 0 ++ rest) 40) = .ok ({ s with lst := true, md := 3, sto := 0 }, bt (shead 1 0 ++ rest) 40) := by
    unfold endB
    rw [if_pos (by rfl), bindR_eq z1]; rfl
  rw [h2] at h1
  refine ⟨{ s with lst := true, md := 3, sto := 0 }, ?_, rfl⟩
  rw [run_ok (by omega) h1, run_end rfl, show (40 : Nat) = 8 * 5 from rfl, bt_drop _ 5 (by omega)]
  rfl
/-- Pieces laid down as stored blocks. -/
def slay : List (List By) → List By
  | [] => []
  | x :: r => shead 0 x.length ++ x ++ slay r
theorem slay_run (most : Nat) (behind : List By) : ∀ (ps : List (List By)) (s : Sx), s.md = 0 → (∀ x ∈ ps, x.length ≤ 65535) → s.out.length + ps.flatten.length ≤ most →
    ∃ s', run most s (bt (slay ps ++ (shead 1 0 ++ behind)) 0) = (s', bt behind 0, 0) ∧ s'.out = s.out ++ ps.flatten := by
  intro ps
  induction ps with
  | nil =>
    intro s hm _ _
    obtain ⟨s', h1, h2⟩ := stored_last most s behind hm
    exact ⟨s', h1, by rw [h2]; simp⟩
  | cons x r ih =>
    intro s hm hx hl
    simp only [List.flatten_cons, List.length_append] at hl
    obtain ⟨s1, h1, h2, h3⟩ := stored_one most s x (slay r ++ (shead 1 0 ++ behind)) hm (hx x (List.mem_cons_self ..)) (by omega)
    obtain ⟨s', h4, h5⟩ := ih s1 h2 (fun y hy => hx y (List.mem_cons_of_mem _ hy)) (by rw [h3, List.length_append]; omega)
    refine ⟨s', ?_, by rw [h5, h3]; simp⟩
    rw [slay, List.append_assoc, h1, h4]
theorem slay_dec (ps : List (List By)) (behind : List By) (hx : ∀ x ∈ ps, x.length ≤ 65535) (hl : ps.flatten.length ≤ 4194304) : idec (slay ps ++ (shead 1 0 ++ behind)) (ps.flatten.length : Nat) = (ps.flatten, (slay ps ++ shead 1 0).length, 0) := by
  obtain ⟨s', h1, h2⟩ := slay_run ps.flatten.length behind ps ini rfl hx (by simp [ini])
  rw [idec_eq hl, h1]
  simp only [if_true]
  rw [h2]
  have : (bt behind 0).n = 8 * behind.length := by rw [bt_n]; omega
  simp only [ini, List.nil_append, Prod.mk.injEq, true_and, and_true, List.length_append]
  rw [this]
  omega
end Go.Proofs.YtincbbnppcpfpaaDoor

namespace Go.Proofs.YtincbbnppcpfpaaDoor
open Go.RowKit
set_option linter.unusedVariables false
/-! ### Bytes behind bytes -/
theorem bt_app (x y : List By) (p : Nat) (hp : p ≤ 8 * x.length) : bt (x ++ y) p = (bt x p).app (bt y 0) := by
  unfold bt Bt.app
  simp only [Bt.mk.injEq]
  refine ⟨by rw [List.length_append]; omega, ?_⟩
  rw [le_append, pow256, Nat.pow_zero, Nat.div_one]
  have e : 2 ^ (8 * x.length) = 2 ^ p * 2 ^ (8 * x.length - p) := by rw [← Nat.pow_add]; congr 1; omega
  rw [e, Nat.mul_assoc, Nat.add_mul_div_left _ _ (Nat.pow_pos (by decide))]
theorem bt_Y (y : List By) : (bt y 0).Y := ⟨by rw [bt_n]; omega, bt_ok y 0⟩
/-- A run over more bits. -/
theorem run_app {y : Bt} (hy : y.Y) (most : Nat) (s : Sx) (t : Bt) (ht : t.Ok) : (run most s t).2.1.Ok ∧ ((run most s t).2.2 ≠ 4 → run most s (t.app y) = ((run most s t).1, (run most s t).2.1.app y, (run most s t).2.2)) ∧ ((run most s t).2.2 = 4 → run most s (t.app y) = run most (run most s t).1 ((run most s t).2.1.app y)) := by
  refine run_ind (most := most) (P := fun s t r => t.Ok → r.2.1.Ok ∧ (r.2.2 ≠ 4 → run most s (t.app y) = (r.1, r.2.1.app y, r.2.2)) ∧ (r.2.2 = 4 → run most s (t.app y) = run most r.1 (r.2.1.app y))) ?_ ?_ ?_ s t ht
  · intro s t hm ht
    exact ⟨ht, fun _ => run_end hm, fun _ => rfl⟩
  · intro s t e hm hs ht
    exact ⟨ht, fun he => run_bad hm ((Loc.step most s).bad t e ht hs he y hy), fun _ => rfl⟩
  · intro s t s' t' hm hs ih ht
    obtain ⟨_, h2, h3⟩ := (Loc.step most s).ok t s' t' ht hs
    obtain ⟨i1, i2, i3⟩ := ih h2
    rw [run_ok hm hs]
    exact ⟨i1, fun he => (run_ok hm (h3 y hy)).trans (i2 he), fun he => (run_ok hm (h3 y hy)).trans (i3 he)⟩
theorem run_four (most : Nat) (s : Sx) (t : Bt) : (run most s t).2.2 = 4 → (run most s t).1.md ≠ 3 ∧ stepR most (run most s t).1 (run most s t).2.1 = .bad 4 := by
  refine run_ind (most := most) (P := fun s t r => r.2.2 = 4 → r.1.md ≠ 3 ∧ stepR most r.1 r.2.1 = .bad 4) ?_ ?_ ?_ s t
  · intro s t hm h; simp at h
  · intro s t e hm hs h
    simp only at h
    subst h
    exact ⟨hm, hs⟩
  · intro s t s' t' hm hs ih h
    rw [run_ok hm hs] at h ⊢
    exact ih h
theorem run_n (most : Nat) (s : Sx) (t : Bt) : (run most s t).2.1.n ≤ t.n := by
  refine run_ind (most := most) (P := fun s t r => r.2.1.n ≤ t.n) ?_ ?_ ?_ s t
  · intro s t hm; exact Nat.le_refl _
  · intro s t e hm hs; exact Nat.le_refl _
  · intro s t s' t' hm hs ih
    have := Dec.step most s t s' t' hs
    rw [run_ok hm hs]
    exact Nat.le_trans ih (by omega)
/-- What was short reads into what comes behind, if it goes on to the end. -/
theorem run_into {y : Bt} (hy : y.Y) (most : Nat) (s : Sx) (t : Bt) (ht : t.Ok) (h : (run most s t).2.2 = 4) (h0 : (run most s (t.app y)).2.2 = 0) : (run most s (t.app y)).2.1.n < y.n := by
  obtain ⟨q1, _, q3⟩ := run_app hy most s t ht
  obtain ⟨r1, r2⟩ := run_four most s t h
  rw [q3 h] at h0 ⊢
  generalize (run most s t).1 = s1 at *
  generalize (run most s t).2.1 = t1 at *
  cases hq : stepR most s1 (t1.app y) with
  | bad e =>
    rw [run_bad r1 hq] at h0
    exact absurd h0 (Nz.step most s1 _ e hq)
  | ok r =>
    obtain ⟨s2, t2⟩ := r
    have k := (Loc.step most s1).short t1 q1 r2 y s2 t2 hy hq
    rw [run_ok r1 hq]
    have := run_n most s2 t2
    omega
/-- What was fed in all. -/
noncomputable def rf (most : Nat) (x : List By) : Sx × Bt × Nat := run most ini (bt x 0)
theorem rf_end {most : Nat} {x : List By} (y : List By) (h : (rf most x).2.2 ≠ 4) : rf most (x ++ y) = ((rf most x).1, (rf most x).2.1.app (bt y 0), (rf most x).2.2) := by
  unfold rf at h ⊢
  rw [bt_app x y 0 (Nat.zero_le _)]
  exact (run_app (bt_Y y) most ini (bt x 0) (bt_ok x 0)).2.1 h
theorem rf_more {most : Nat} {x : List By} (y : List By) (h : (rf most x).2.2 = 4) : rf most (x ++ y) = run most (rf most x).1 ((rf most x).2.1.app (bt y 0)) := by
  unfold rf at h ⊢
  rw [bt_app x y 0 (Nat.zero_le _)]
  exact (run_app (bt_Y y) most ini (bt x 0) (bt_ok x 0)).2.2 h
/-- What is kept: the bytes that are not read whole. -/
def lft (x : List By) (p : Nat) : Nat := (8 * x.length - p + 7) / 8
def kpt (x : List By) (p : Nat) : List By := x.drop (x.length - lft x p)
def skp (x : List By) (p : Nat) : Nat := 8 * lft x p - (8 * x.length - p)
theorem skp_le (x : List By) (p : Nat) : skp x p ≤ 7 := by unfold skp lft; omega
theorem lft_le (x : List By) (p : Nat) (hp : p ≤ 8 * x.length) : lft x p ≤ x.length := by unfold lft; omega
theorem kpt_length (x : List By) (p : Nat) (hp : p ≤ 8 * x.length) : (kpt x p).length = lft x p := by
  have := lft_le x p hp
  unfold kpt
  rw [List.length_drop]; omega
theorem bt_kept (x y : List By) (p : Nat) (hp : p ≤ 8 * x.length) : bt (x ++ y) p = bt (kpt x p ++ y) (skp x p) := by
  have hl := lft_le x p hp
  have hd : (x ++ y).drop (x.length - lft x p) = kpt x p ++ y := by
    unfold kpt
    rw [List.drop_append_of_le_length (by omega)]
  have e : p = 8 * (x.length - lft x p) + skp x p := by unfold skp; unfold lft at hl ⊢; omega
  have h1 := bt_drop (x ++ y) (x.length - lft x p) (by rw [List.length_append]; omega)
  have h2 : bt (x ++ y) p = ⟨(bt (x ++ y) (8 * (x.length - lft x p))).n - skp x p, (bt (x ++ y) (8 * (x.length - lft x p))).x / 2 ^ skp x p⟩ := by
    rw [bt_rest, ← e]
  rw [h2, h1, hd, bt_rest, Nat.zero_add]
/-- What a beginning tells is a beginning of what is told. -/
theorem rf_pre (most : Nat) (x y : List By) : ∃ m, (rf most (x ++ y)).1.out = (rf most x).1.out ++ m := by
  by_cases h : (rf most x).2.2 = 4
  · rw [rf_more y h]
    have hi : Iv most (bt x 0) ini := ⟨by simp [ini], fun e => by simp [ini] at e, fun e => by simp [ini] at e⟩
    have hI : Iv most (rf most x).2.1 (rf most x).1 := (run_ad ini (bt x 0) hi).1
    have hJ : Iv most ((rf most x).2.1.app (bt y 0)) (rf most x).1 := ⟨hI.ol, hI.st, fun e => by
      have h1 := hI.en e
      have h2 := (bt_Y y).1
      show ((rf most x).2.1.n + (bt y 0).n) % 8 = 0
      omega⟩
    exact (run_ad _ _ hJ).2.2.2.2
  · rw [rf_end y h]
    exact ⟨[], (List.append_nil _).symm⟩
/-- Decode is what is told of all. -/
theorem idec_rf {b : List By} {m : Nat} (hm : m ≤ 4194304) : idec b m = if (rf m b).2.2 = 0 then ((rf m b).1.out, b.length - ((rf m b).2.1.n + 7) / 8, 0) else ([], 0, (rf m b).2.2) := by
  unfold idec rf
  rw [if_neg (by omega), Int.toNat_natCast]
theorem rf_n (most : Nat) (x : List By) : (rf most x).2.1.n ≤ 8 * x.length := by
  have hi : Iv most (bt x 0) ini := ⟨by simp [ini], fun e => by simp [ini] at e, fun e => by simp [ini] at e⟩
  have := (run_ad ini (bt x 0) hi).2.2.1
  rw [bt_n] at this
  exact this
/-- A stream is read alike whatever stands behind it. -/
theorem idec_behind {b z : List By} {m : Nat} (hm : m ≤ 4194304) (h : (idec b m).2.2 = 0) : idec (b.take (idec b m).2.1 ++ z) m = idec b m := by
  have hr := idec_rf (b := b) hm
  have h0 : (rf m b).2.2 = 0 := by
    by_cases h0 : (rf m b).2.2 = 0
    · exact h0
    · rw [hr, if_neg h0] at h
      exact absurd h h0
  rw [if_pos h0] at hr
  have hi : Iv m (bt b 0) ini := ⟨by simp [ini], fun e => by simp [ini] at e, fun e => by simp [ini] at e⟩
  obtain ⟨a1, _, a3, a4, _⟩ := run_ad ini (bt b 0) hi
  have hmod : (rf m b).2.1.n % 8 = 0 := a1.en (a4 h0).1
  have hnb := rf_n m b
  rw [hr]
  simp only
  obtain ⟨n, hn⟩ : ∃ n, n = b.length - ((rf m b).2.1.n + 7) / 8 := ⟨_, rfl⟩
  rw [← hn]
  have hnl : n ≤ b.length := by omega
  have hb : b.take n ++ b.drop n = b := List.take_append_drop n b
  have hyn : (bt (b.drop n) 0).n = (rf m b).2.1.n := by rw [bt_n, List.length_drop]; omega
  have hbt : bt b 0 = (bt (b.take n) 0).app (bt (b.drop n) 0) := by rw [← bt_app _ _ 0 (Nat.zero_le _), hb]
  have h4 : (rf m (b.take n)).2.2 ≠ 4 := fun h4 => by
    have := run_into (bt_Y (b.drop n)) m ini (bt (b.take n) 0) (bt_ok _ _) h4 (by rw [← hbt]; exact h0)
    rw [← hbt, hyn] at this
    exact Nat.lt_irrefl _ this
  have he := rf_end (b.drop n) h4
  rw [hb] at he
  have e1 : (rf m b).1 = (rf m (b.take n)).1 := by rw [he]
  have e2 : (rf m b).2.1.n = (rf m (b.take n)).2.1.n + (bt (b.drop n) 0).n := by rw [he]; rfl
  have e3 : (rf m (b.take n)).2.2 = 0 := by rw [he] at h0; exact h0
  have hz := rf_end z h4
  rw [idec_rf hm, hz]
  simp only
  rw [if_pos e3, e1]
  have e4 : ((rf m (b.take n)).2.1.app (bt z 0)).n = 8 * z.length := by
    show (rf m (b.take n)).2.1.n + (bt z 0).n = _
    rw [bt_n]; omega
  rw [e4, List.length_append, List.length_take]
  simp only [Prod.mk.injEq, true_and, and_true]
  omega
/-- A stream that is cut off is short. -/
theorem idec_cut {b : List By} {m c : Nat} (hm : m ≤ 4194304) (h : (idec b m).2.2 = 0) (hc : c < (idec b m).2.1) : (idec (b.take c) m).2.2 = 4 := by
  have hr := idec_rf (b := b) hm
  have h0 : (rf m b).2.2 = 0 := by
    by_cases h0 : (rf m b).2.2 = 0
    · exact h0
    · rw [hr, if_neg h0] at h
      exact absurd h h0
  rw [if_pos h0] at hr
  rw [hr] at hc
  simp only at hc
  have hcl : c ≤ b.length := by omega
  have hb : b.take c ++ b.drop c = b := List.take_append_drop c b
  have hq := idec_rf (b := b.take c) hm
  by_cases h4 : (rf m (b.take c)).2.2 = 4
  · rw [hq, if_neg (by omega)]; exact h4
  · have he := rf_end (b.drop c) h4
    rw [hb] at he
    have hn := rf_n m (b.take c)
    have e2 : (rf m b).2.1.n = (rf m (b.take c)).2.1.n + 8 * (b.length - c) := by
      rw [he]
      show (rf m (b.take c)).2.1.n + (bt (b.drop c) 0).n = _
      rw [bt_n, List.length_drop]; omega
    have e3 : (rf m (b.take c)).2.2 = 0 := by
      rw [he] at h0; exact h0
    rw [e2] at hc
    omega
end Go.Proofs.YtincbbnppcpfpaaDoor
