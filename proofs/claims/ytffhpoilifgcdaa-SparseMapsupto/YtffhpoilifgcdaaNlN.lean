import Derived.Test.YtffhpoilifgcdaaNlJ
import Derived.Test.YtffhpoilifgcdaaNlM
import Derived.BigRegion
namespace Go.Proofs.Ytffhpoilifgcdaa
open Go.RowKit
set_option linter.unusedVariables false
/-! ### The document's Join -/
def appW (tys : Array TypeId) (ty : TypeId) (args : Array Value) : Sem Value := Builtin.append_ tys ty args
theorem appW_fold (tys : Array TypeId) (ty : TypeId) (args : Array Value) : Builtin.append_ tys ty args = appW tys ty args := rfl
attribute [local go_sem ↓] appW_fold
set_option maxHeartbeats 8000000 in
set_option maxRecDepth 100000 in
theorem rjoin_any {X Y : Nat → Prop} (w : World) (a : Option Addr) (n c : Nat) (b : List By) (hb : Sl X (.slice a n c) b w) (hn : n ≤ 1000000000) (a2 : Option Addr) (n2 c2 : Nat) (l : List Rg) (hl : SlR RG Y (.slice a2 n2 c2) l w) :
    Calls Try.prog 10 #[.slice a n c, .slice a2 n2 c2] w (JnA w b l) := by
  obtain ⟨P, hP⟩ : ∃ P : Ending → World → Prop, P = JnA w b l := ⟨_, rfl⟩
  rw [← hP]
  obtain ⟨hbn, k1, k2⟩ := slx_len hb
  obtain ⟨hln, k3, k4⟩ := slg_len hl
  have HV := tHid (rvalid_any w a2 n2 c2 l hl (n : Int))
  cases hv : vld l (n : Int) with
  | false =>
    have HF : Hid (∀ V, Nw w V → P (.returned (.tuple #[.slice none 0 0, .int .i64 1])) V) := fun V hV => by rw [hP]; exact JnA.bad (by rw [hbn]; exact hv) hV
    rw [hv] at HV
    clear hP hb hbn hl hln hv
    go_enter Try.func10, Try.ntmps10
    go_wp2_with (first
      | (go_at_call 14; with_reducible refine HV.out.mono ?_; rintro e w1 ⟨rfl, H1⟩; have H1 := tHid H1))
    first | exact HF.out _ H1.out | (go_ret; exact HF.out _ H1.out)
  | true =>
    have HF : Hid (∀ V g m c, Nw w V → w.heap.size ≤ g → Ow g (.slice (some ⟨g, 0, none⟩) m c) (jn b l) V → P (.returned (.tuple #[.slice (some ⟨g, 0, none⟩) m c, .int .i64 0])) V) := fun V g m c h1 h2 h3 => by rw [hP]; exact JnA.ok (by rw [hbn]; exact hv) h1 g c h2 m h3
    obtain ⟨_, _, hvE⟩ := vld_iff.1 hv
    have HA : Hid (∀ x ∈ l, 0 ≤ x.1 ∧ x.1 ≤ x.2 ∧ x.2 ≤ (n : Int)) := fun x hx => by have := vlE_all hvE (Int.le_refl _) x hx; omega
    have HJL : Hid (∀ i, (jn b (l.take i)).length ≤ 100000000000000) := fun i => by
      have h1 := jn_len b (l.take i) (fun x hx => by rw [hbn]; exact HA.out x (List.mem_of_mem_take hx))
      have h2 := hld_part hvE (by omega) i
      omega
    have HB := tHid hb
    have HI := tHid hl.inG
    have HLN := tHid hln
    have HBN := tHid hbn
    rw [hv] at HV
    clear hP hb hbn hl hln hv hvE
    go_enter Try.func10, Try.ntmps10
    go_upto_region 3 with (first
      | (go_at_call 14; with_reducible refine HV.out.mono ?_; rintro e w1 ⟨rfl, H1⟩; have H1 := tHid H1))
    go_upto_region 5 with fail
    have HN3 : Hid (Nw w (w1.alloc (.cells #[] 5))) := H1.out.alloc _
    have hg3 : w.heap.size ≤ w1.heap.size := H1.out.size
    have HO3 := tHid (Ow.empty w1)
    generalize w1.alloc (.cells #[] 5) = W3 at *
    generalize w1.heap.size = g0 at *
    clear HV H1
    go_loopg [6, 7] n2 (fun kx v i wr => ∃ (I g m c : Nat), I ≤ n2 ∧ n2 - I ≤ kx ∧ v = .slice (some ⟨g, 0, none⟩) m c ∧ i = .int .i64 I ∧ Hid (Nw w wr ∧ w.heap.size ≤ g ∧ Ow g (.slice (some ⟨g, 0, none⟩) m c) (jn b (l.take I)) wr))
    case atStart => exact ⟨0, g0, 0, 0, by omega, by omega, rfl, rfl, HN3.out, hg3, HO3.out⟩
    case round =>
      obtain ⟨I, g, m, c', hI, hkx, rfl, rfl, HL⟩ := hrel
      obtain ⟨hN, hg, hO⟩ := HL.out
      by_cases hlt : I < n2
      · have hlt' : I < l.length := by have := HLN.out; omega
        obtain ⟨gl, ol, rfl, x0, x1⟩ := HI.out wr hN I hlt'
        have hA := HA.out l[I] (List.getElem_mem hlt')
        obtain ⟨F, hF⟩ : ∃ F : Nat, l[I].1 = F := ⟨l[I].1.toNat, by omega⟩
        obtain ⟨T, hT⟩ : ∃ T : Nat, l[I].2 = T := ⟨l[I].2.toNat, by omega⟩
        have hsn : jn b (l.take (I + 1)) = jn b (l.take I) ++ pc b l[I] := by rw [List.take_add_one, List.getElem?_eq_getElem hlt', ← jn_snoc]; rfl
        have hFT : F ≤ T := by omega
        have hTn : T ≤ n := by omega
        have hjl := HJL.out I
        have hpl : (pc b l[I]).length ≤ n := by
          have h5 := pc_len b l[I] hA.1 hA.2.1 (by rw [HBN.out]; exact hA.2.2)
          omega
        rw [hF] at x0
        rw [hT] at x1
        have HAP : Hid (∀ V x, Nw wr V → Sl (fun _ => False) x (pc b l[I]) V → ∃ g' m' c'' W, Hid (∀ ty, (Builtin.append_ #[22, 22] ty #[.slice (some ⟨g, 0, none⟩) m c', x]).run Try.prog V = .ok (.slice (some ⟨g', 0, none⟩) m' c'') W) ∧ Hid (Nw w W ∧ w.heap.size ≤ g' ∧ Ow g' (.slice (some ⟨g', 0, none⟩) m' c'') (jn b (l.take (I + 1))) W)) := fun V x hV hx => by
          obtain ⟨g', m', c'', W, q1, q2, q3, q4⟩ := app_own V g m c' _ (hO.nw hV) x (pc b l[I]) hx (by omega)
          refine ⟨g', m', c'', W, q1, (hN.trans hV).then q3 (fun i hi => .inr (by omega)), ?_, by rw [hsn]; exact q2⟩
          rcases q4 with e | e
          · omega
          · have := hN.size; have := hV.size; omega
        have hSB : ∀ V, Nw wr V → Sl (fun _ => False) (.slice a n c) b V := fun V hV => ((HB.out.mono (fun _ h => h.elim)).nw hN).nw hV
        have hal : Nw wr wr.drew := (Fr.refl _ _).drew
        have e1 : (F : Int) ≤ (T : Int) := by omega
        have e2 : (T : Int) ≤ (n : Int) := by omega
        by_cases hc : F < c
        · obtain ⟨gb, ob, rfl⟩ : ∃ gb ob, a = some ⟨gb, ob, none⟩ := by
            rcases HB.out with ⟨_, e, _⟩ | ⟨gb, _, ob, _, e, _⟩
            · injection e with e1 e2 e3; omega
            · injection e with e1 e2 e3; exact ⟨gb, ob, e1⟩
          obtain ⟨g', m', c'', W, HA1, HA2⟩ := HAP.out _ (.slice (some ⟨gb, ob + F, none⟩) (T - F) (c - F)) hal (by rw [pc_eq b _ F T hF hT]; exact (hSB _ hal).part F T hFT hTn hc)
          have e3 : ¬ c ≤ F := by omega
          have e5 : ¬ c = F := by omega
          obtain ⟨N1, hN1⟩ : ∃ N1, T - F = N1 := ⟨_, rfl⟩
          obtain ⟨C1, hC1⟩ : ∃ C1, c - F = C1 := ⟨_, rfl⟩
          rw [hN1, hC1] at HA1
          have e6 : (T : Int) - (F : Int) = (N1 : Int) := by omega
          have e7 : (T : Int) ≤ (c : Int) := by omega
          have hap : ∀ ty, (appW #[22, 22] ty #[.slice (some ⟨g, 0, none⟩) m c', .slice (some ⟨gb, ob + F, none⟩) N1 C1]).run Try.prog wr.drew = .ok (.slice (some ⟨g', 0, none⟩) m' c'') W := HA1.out
          clear HF HI HL hN hO hg HA HAP hSB hal hA hF hT hsn hjl hpl HB HJL
          go_upto_region 7 with fail
          go_region
          go_wp2_with fail
          go_roundg (n2 - (I + 1))
          case measure => omega
          case rel => exact ⟨I + 1, g', m', c'', by omega, by omega, rfl, by first | rfl | (congr 1), HA2⟩
        · obtain ⟨g', m', c'', W, HA1, HA2⟩ := HAP.out _ (.slice a 0 0) hal (by rw [pc_none b _ F T hF hT (by omega)]; exact .inl ⟨a, rfl, rfl⟩)
          obtain rfl : T = F := by omega
          obtain rfl : n = T := by omega
          obtain rfl : c = n := by omega
          cases a with
          | none =>
            have h0 : c = 0 := by
              rcases HB.out with ⟨_, e, _⟩ | ⟨gb, _, ob, _, e, _⟩
              · injection e with e1 e2 e3
              · injection e with e1 e2 e3; cases e1
            subst h0
            simp only [Int.natCast_zero] at x0 x1 HA1
            have hap : ∀ ty, (appW #[22, 22] ty #[.slice (some ⟨g, 0, none⟩) m c', .slice none 0 0]).run Try.prog wr.drew = .ok (.slice (some ⟨g', 0, none⟩) m' c'') W := HA1.out
            clear HF HI HL hN hO hg HA HAP hSB hal hA hF hT hsn hjl hpl HB HJL
            go_upto_region 7 with fail
            go_region
            go_wp2_with fail
            go_roundg (n2 - (I + 1))
            case measure => omega
            case rel => exact ⟨I + 1, g', m', c'', by omega, by omega, rfl, by first | rfl | (congr 1), HA2⟩
          | some ad =>
            have hap : ∀ ty, (appW #[22, 22] ty #[.slice (some ⟨g, 0, none⟩) m c', .slice (some ad) 0 0]).run Try.prog wr.drew = .ok (.slice (some ⟨g', 0, none⟩) m' c'') W := HA1.out
            clear HF HI HL hN hO hg HA HAP hSB hal hA hF hT hsn hjl hpl HB HJL
            go_upto_region 7 with fail
            go_region
            go_wp2_with fail
            go_roundg (n2 - (I + 1))
            case measure => omega
            case rel => exact ⟨I + 1, g', m', c'', by omega, by omega, rfl, by first | rfl | (congr 1), HA2⟩
      · have HF2 := tHid (HF.out wr g m c' hN hg (by rw [List.take_of_length_le (by have := HLN.out; omega)] at hO; exact hO))
        obtain rfl : I = n2 := by omega
        clear HF HI HL hN hO hg HA HB HJL
        go_wp2_with fail
        first | exact HF2.out | (go_ret; exact HF2.out)
end Go.Proofs.Ytffhpoilifgcdaa
