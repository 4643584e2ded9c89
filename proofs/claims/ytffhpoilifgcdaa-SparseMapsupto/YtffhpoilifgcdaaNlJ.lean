import Derived.Test.YtffhpoilifgcdaaNlI
import Derived.Test.YtffhpoilifgcdaaLzZ
namespace Go.Proofs.Ytffhpoilifgcdaa
open Go.RowKit
set_option linter.unusedVariables false
/-! ### Join -/
/-- Bytes that a call made. -/
abbrev NewB (w : World) (v : Value) (l : List By) (V : World) : Prop := Mine (fun k => k < w.heap.size) v l V
def JnA (w : World) (b : List By) (l : List Rg) (e : Ending) (V : World) : Prop := ∃ a m c, e = .returned (.tuple #[.slice a m c, .int .i64 (if vld l b.length then 0 else 1)]) ∧ Hid (Nw w V ∧ NewB w (.slice a m c) (if vld l b.length then jn b l else []) V)
theorem JnA.bad {w : World} {b : List By} {l : List Rg} {V : World} (h : vld l b.length = false) (hN : Nw w V) : JnA w b l (.returned (.tuple #[.slice none 0 0, .int .i64 1])) V := by
  refine ⟨none, 0, 0, by rw [h]; rfl, hN, ?_⟩
  rw [h]; exact Mine.nil _ _
theorem JnA.ok {w : World} {b : List By} {l : List Rg} {V : World} (h : vld l b.length = true) (hN : Nw w V) (g c : Nat) (hg : w.heap.size ≤ g) (m : Nat) (hO : Ow g (.slice (some ⟨g, 0, none⟩) m c) (jn b l) V) : JnA w b l (.returned (.tuple #[.slice (some ⟨g, 0, none⟩) m c, .int .i64 0])) V := by
  refine ⟨some ⟨g, 0, none⟩, m, c, by rw [h]; rfl, hN, ?_⟩
  rw [h]; exact .inr ⟨g, by omega, hO⟩
/-- One piece more behind bytes of one's own. -/
theorem app_own (V : World) (g : Nat) (m c : Nat) (acc : List By) (hO : Ow g (.slice (some ⟨g, 0, none⟩) m c) acc V) (x : Value) (p : List By) (hx : Sl (fun _ => False) x p V) (hb : acc.length + p.length ≤ 200000000000000) :
    ∃ g' m' c' W, Hid (∀ ty, (Builtin.append_ #[22, 22] ty #[.slice (some ⟨g, 0, none⟩) m c, x]).run Try.prog V = .ok (.slice (some ⟨g', 0, none⟩) m' c') W) ∧ Ow g' (.slice (some ⟨g', 0, none⟩) m' c') (acc ++ p) W ∧ Fr (fun k => k = g) V W ∧ (g' = g ∨ V.heap.size ≤ g') := by
  obtain ⟨v', g', W, k1, k2, k3, k4⟩ := app_any V g _ acc hO x p hx hb
  obtain ⟨xs, rfl, _⟩ := id k2
  exact ⟨g', _, _, W, k1, k2, k3, k4⟩
/-- A part of a slice. -/
theorem Sl.part {X : Nat → Prop} {g o n c : Nat} {l : List By} {w : World} (h : Sl X (.slice (some ⟨g, o, none⟩) n c) l w) (F T : Nat) (h1 : F ≤ T) (h2 : T ≤ n) (hc : F < c) : Sl X (.slice (some ⟨g, o + F, none⟩) (T - F) (c - F)) ((l.drop F).take (T - F)) w := by
  rcases h with ⟨a, e, rfl⟩ | ⟨g', hg, o', c', e, q1, q2, q3⟩
  · injection e with e1 e2 e3; omega
  · injection e with e1 e2 e3
    injection e1 with e1
    injection e1 with e1 e4
    subst e1 e4
    refine .inr ⟨g, hg, o + F, c - F, ?_, ?_, by omega, (q3.drop F).take (T - F)⟩
    · rw [List.length_take, List.length_drop]
      congr 1
      omega
    · rw [List.length_take, List.length_drop]; omega
theorem pc_none (b : List By) (x : Rg) (F T : Nat) (h1 : x.1 = F) (h2 : x.2 = T) (h : T ≤ F) : pc b x = [] := by
  unfold pc
  rw [h1, h2, Int.toNat_natCast, Int.toNat_natCast, show T - F = 0 by omega, List.take_zero]
theorem pc_eq (b : List By) (x : Rg) (F T : Nat) (h1 : x.1 = F) (h2 : x.2 = T) : pc b x = (b.drop F).take (T - F) := by
  unfold pc
  rw [h1, h2, Int.toNat_natCast, Int.toNat_natCast]
set_option maxHeartbeats 8000000 in
set_option maxRecDepth 100000 in
theorem join_any {X Y : Nat → Prop} (w : World) (a : Option Addr) (n c : Nat) (b : List By) (hb : Sl X (.slice a n c) b w) (hn : n ≤ 1000000000) (a2 : Option Addr) (n2 c2 : Nat) (l : List Rg) (hl : SlR RG Y (.slice a2 n2 c2) l w) :
    Calls Try.prog 9 #[.slice a n c, .slice a2 n2 c2] w (JnA w b l) := by
  obtain ⟨P, hP⟩ : ∃ P : Ending → World → Prop, P = JnA w b l := ⟨_, rfl⟩
  rw [← hP]
  obtain ⟨hbn, k1, k2⟩ := slx_len hb
  obtain ⟨hln, k3, k4⟩ := slg_len hl
  have HV := tHid (valid_any w a2 n2 c2 l hl (n : Int))
  cases hv : vld l (n : Int) with
  | false =>
    have HF : Hid (∀ V, Nw w V → P (.returned (.tuple #[.slice none 0 0, .int .i64 1])) V) := fun V hV => by rw [hP]; exact JnA.bad (by rw [hbn]; exact hv) hV
    rw [hv] at HV
    clear hP hb hbn hl hln hv
    go_enter Try.func9, Try.ntmps9
    go_wp2_with (first
      | (go_at_call 13; with_reducible refine HV.out.mono ?_; rintro e w1 ⟨rfl, H1⟩; have H1 := tHid H1))
    first | exact HF.out _ H1.out | (go_ret; exact HF.out _ H1.out)
  | true =>
    have HF : Hid (∀ V g m c, Nw w V → w.heap.size ≤ g → Ow g (.slice (some ⟨g, 0, none⟩) m c) (jn b l) V → P (.returned (.tuple #[.slice (some ⟨g, 0, none⟩) m c, .int .i64 0])) V) := fun V g m c h1 h2 h3 => by rw [hP]; exact JnA.ok (by rw [hbn]; exact hv) h1 g c h2 m h3
    obtain ⟨_, _, hvE⟩ := vld_iff.1 hv
    have HA : Hid (∀ x ∈ l, 0 ≤ x.1 ∧ x.1 ≤ x.2 ∧ x.2 ≤ (n : Int)) := fun x hx => by have := vlE_all hvE (Int.le_refl _) x hx; omega
    have hp := hld_le hvE (by omega)
    obtain ⟨H, hH⟩ : ∃ H : Nat, hld l = H := ⟨(hld l).toNat, by omega⟩
    have hHn : H ≤ n := by omega
    have HHE : Hid (∀ V, Nw w V → Calls Try.prog 23 #[.slice a2 n2 c2] V fun e w' => e = .returned (.int .i64 (H : Int)) ∧ Nw V w') := fun V hV => by rw [← hH]; exact held_any V a2 n2 c2 l (hl.nw hV) (n : Int) (by omega) hvE
    have HMK : Hid (∀ V, Nw w V → ∃ W, (Instr.makeSlice 22 (.int .i64 0) (.int .i64 (H : Int))).run Try.prog V = .ok (.slice (some ⟨V.heap.size, 0, none⟩) 0 H) W ∧ Hid (Ow V.heap.size (.slice (some ⟨V.heap.size, 0, none⟩) 0 H) [] W ∧ Nw V W)) := fun V hV => by
      obtain ⟨W, q1, q2, q3, _⟩ := make_any V H (by omega)
      exact ⟨W, q1, q2, q3⟩
    have HJL : Hid (∀ i, (jn b (l.take i)).length ≤ 100000000000000) := fun i => by
      have h1 := jn_len b (l.take i) (fun x hx => by rw [hbn]; exact HA.out x (List.mem_of_mem_take hx))
      have h2 := hld_part hvE (by omega) i
      omega
    have HB := tHid hb
    have HI := tHid hl.inG
    have HLN := tHid hln
    have HBN := tHid hbn
    rw [hv] at HV
    clear hP hb hbn hl hln hv hvE hp hH
    go_enter Try.func9, Try.ntmps9
    go_upto_region 3 with (first
      | (go_at_call 13; with_reducible refine HV.out.mono ?_; rintro e w1 ⟨rfl, H1⟩; have H1 := tHid H1))
    go_upto_region 4 with (first
      | (go_at_call 23; with_reducible refine (HHE.out w1 H1.out).mono ?_; rintro e w2 ⟨rfl, H2⟩; have H2 := tHid H2; obtain ⟨W3, hmk, H3⟩ := HMK.out w2 (H1.out.trans H2.out)))
    have HN3 : Hid (Nw w W3) := (H1.out.trans H2.out).trans H3.out.2
    have hg3 : w.heap.size ≤ w2.heap.size := (H1.out.trans H2.out).size
    have HO3 := tHid H3.out.1
    generalize w2.heap.size = g0 at *
    clear HV HHE HMK H1 H2 H3 hmk
    go_upto_region 5 with fail
    go_loopg [6, 19] n2 (fun kx v i wr => ∃ (I g m c : Nat), I ≤ n2 ∧ n2 - I ≤ kx ∧ v = .slice (some ⟨g, 0, none⟩) m c ∧ i = .int .i64 I ∧ Hid (Nw w wr ∧ w.heap.size ≤ g ∧ Ow g (.slice (some ⟨g, 0, none⟩) m c) (jn b (l.take I)) wr))
    case atStart => exact ⟨0, g0, 0, H, by omega, by omega, rfl, rfl, HN3.out, hg3, HO3.out⟩
    case round =>
      obtain ⟨I, g, m, c', hI, hkx, rfl, rfl, HL⟩ := hrel
      obtain ⟨hN, hg, hO⟩ := HL.out
      by_cases hlt : I < n2
      · have hlt' : I < l.length := by have := HLN.out; omega
        obtain ⟨gl, ol, rfl, x0, x1⟩ := HI.out wr hN I hlt'
        have hA := HA.out l[I] (List.getElem_mem hlt')
        obtain ⟨F, hF⟩ : ∃ F : Nat, l[I].1 = F := ⟨l[I].1.toNat, by omega⟩
        obtain ⟨T, hT⟩ : ∃ T : Nat, l[I].2 = T := ⟨l[I].2.toNat, by omega⟩
        have hsn : jn b (l.take (I + 1)) = jn b (l.take I) ++ pc b l[I] := by rw [List.take_add_one, List.getElem?_eq_getElem hlt', ← jn_snoc]; rfl
        have hFT : F ≤ T := by omega
        have hTn : T ≤ n := by omega
        have hjl := HJL.out I
        have hpl : (pc b l[I]).length ≤ n := by
          have h5 := pc_len b l[I] hA.1 hA.2.1 (by rw [HBN.out]; exact hA.2.2)
          omega
        rw [hF] at x0
        rw [hT] at x1
        have HAP : Hid (∀ V x, Nw wr V → Sl (fun _ => False) x (pc b l[I]) V → ∃ g' m' c'' W, Hid (∀ ty, (Builtin.append_ #[22, 22] ty #[.slice (some ⟨g, 0, none⟩) m c', x]).run Try.prog V = .ok (.slice (some ⟨g', 0, none⟩) m' c'') W) ∧ Hid (Nw w W ∧ w.heap.size ≤ g' ∧ Ow g' (.slice (some ⟨g', 0, none⟩) m' c'') (jn b (l.take (I + 1))) W)) := fun V x hV hx => by
          obtain ⟨g', m', c'', W, q1, q2, q3, q4⟩ := app_own V g m c' _ (hO.nw hV) x (pc b l[I]) hx (by omega)
          refine ⟨g', m', c'', W, q1, (hN.trans hV).then q3 (fun i hi => .inr (by omega)), ?_, by rw [hsn]; exact q2⟩
          rcases q4 with e | e
          · omega
          · have := hN.size; have := hV.size; omega
        have hSB : ∀ V, Nw wr V → Sl (fun _ => False) (.slice a n c) b V := fun V hV => ((HB.out.mono (fun _ h => h.elim)).nw hN).nw hV
        have hal : Nw wr (wr.alloc (.cells #[.int .i64 (F : Int), .int .i64 (T : Int)] 29)) := (Fr.refl _ _).alloc _
        have e1 : (F : Int) ≤ (T : Int) := by omega
        have e2 : (T : Int) ≤ (n : Int) := by omega
        by_cases hc : F < c
        · obtain ⟨gb, ob, rfl⟩ : ∃ gb ob, a = some ⟨gb, ob, none⟩ := by
            rcases HB.out with ⟨_, e, _⟩ | ⟨gb, _, ob, _, e, _⟩
            · injection e with e1 e2 e3; omega
            · injection e with e1 e2 e3; exact ⟨gb, ob, e1⟩
          obtain ⟨g', m', c'', W, HA1, HA2⟩ := HAP.out _ (.slice (some ⟨gb, ob + F, none⟩) (T - F) (c - F)) hal (by rw [pc_eq b _ F T hF hT]; exact (hSB _ hal).part F T hFT hTn hc)
          have e3 : ¬ c ≤ F := by omega
          have e5 : ¬ c = F := by omega
          obtain ⟨N1, hN1⟩ : ∃ N1, T - F = N1 := ⟨_, rfl⟩
          obtain ⟨C1, hC1⟩ : ∃ C1, c - F = C1 := ⟨_, rfl⟩
          rw [hN1, hC1] at HA1
          have e6 : (T : Int) - (F : Int) = (N1 : Int) := by omega
          have e7 : (T : Int) ≤ (c : Int) := by omega
          clear HF HI HL hN hO hg HA HAP hSB hal hA hF hT hsn hjl hpl HB HJL
          go_wp2_with (first
            | (at_builtin; refine Lib.wpList_append_run _ rfl _ _ 22 22 rfl (.slice (some ⟨g, 0, none⟩) m c') (.slice (some ⟨gb, ob + F, none⟩) N1 C1) (by first | rfl | simp [Act.eval]) (by first | rfl | simp [Act.eval]) _ _ (HA1.out _) ?_))
          go_roundg (n2 - (I + 1))
          case measure => omega
          case rel => exact ⟨I + 1, g', m', c'', by omega, by omega, rfl, by first | rfl | (congr 1), HA2⟩
        · obtain ⟨g', m', c'', W, HA1, HA2⟩ := HAP.out _ (.slice a 0 0) hal (by rw [pc_none b _ F T hF hT (by omega)]; exact .inl ⟨a, rfl, rfl⟩)
          obtain rfl : T = F := by omega
          obtain rfl : n = T := by omega
          obtain rfl : c = n := by omega
          cases a with
          | none =>
            have h0 : c = 0 := by
              rcases HB.out with ⟨_, e, _⟩ | ⟨gb, _, ob, _, e, _⟩
              · injection e with e1 e2 e3
              · injection e with e1 e2 e3; cases e1
            subst h0
            simp only [Int.natCast_zero] at x0 x1 HA1
            clear HF HI HL hN hO hg HA HAP hSB hal hA hF hT hsn hjl hpl HB HJL
            go_wp2_with (first
              | (at_builtin; refine Lib.wpList_append_run _ rfl _ _ 22 22 rfl (.slice (some ⟨g, 0, none⟩) m c') (.slice none 0 0) (by first | rfl | simp [Act.eval]) (by first | rfl | simp [Act.eval]) _ _ (HA1.out _) ?_))
            go_roundg (n2 - (I + 1))
            case measure => omega
            case rel => exact ⟨I + 1, g', m', c'', by omega, by omega, rfl, by first | rfl | (congr 1), HA2⟩
          | some ad =>
            clear HF HI HL hN hO hg HA HAP hSB hal hA hF hT hsn hjl hpl HB HJL
            go_wp2_with (first
              | (at_builtin; refine Lib.wpList_append_run _ rfl _ _ 22 22 rfl (.slice (some ⟨g, 0, none⟩) m c') (.slice (some ad) 0 0) (by first | rfl | simp [Act.eval]) (by first | rfl | simp [Act.eval]) _ _ (HA1.out _) ?_))
            go_roundg (n2 - (I + 1))
            case measure => omega
            case rel => exact ⟨I + 1, g', m', c'', by omega, by omega, rfl, by first | rfl | (congr 1), HA2⟩
      · have HF2 := tHid (HF.out wr g m c' hN hg (by rw [List.take_of_length_le (by have := HLN.out; omega)] at hO; exact hO))
        obtain rfl : I = n2 := by omega
        clear HF HI HL hN hO hg HA HB HJL
        go_wp2_with fail
        first | exact HF2.out | (go_ret; exact HF2.out)
end Go.Proofs.Ytffhpoilifgcdaa
