import Derived.Test.YtpnacppmdlnjlaaPaR
namespace Go.Proofs.Ytpnacppmdlnjlaa
open Go.RowKit
set_option linter.unusedVariables false
/-- What the document's Parse answers. -/
def RParsd (r : List Sq × Nat × Nat) (w : World) (e : Ending) (w' : World) : Prop :=
  ∃ a c gs qs, e = .returned (.tuple #[.slice a r.1.length c, .int .i64 r.2.1, .int .i64 r.2.2]) ∧ SqL (fun k => k < w.heap.size) (.slice a r.1.length c) r.1 gs qs w' ∧ Nw w w'
/-- How the loop stands. -/
structure RQ (w : World) (b : List By) (i : Nat) (l : List Sq) (v : Value) (wr : World) : Prop where
  list : ∃ gs qs, SqL (fun k => k < w.heap.size) v l gs qs wr
  nw : Nw w wr
  le : i ≤ b.length
  ll : l.length ≤ i
  sc : scanS ls b.length b ⟨[], ⟨[], 0, 0⟩, 0⟩ = scanS ls b.length (b.drop i) ⟨l, ⟨[], 0, 0⟩, 0⟩
/-- One more in the list. -/
theorem RQ.app {w : World} {l : List Sq} {v : Value} {wr V : World} (hl : ∃ gs qs, SqL (fun k => k < w.heap.size) v l gs qs wr) (hV : Nw wr V) (hw : Nw w wr) (gp : Nat) (hgp : wr.heap.size ≤ gp) (s : Sq) (an : Option Addr) (nn cn : Nat) (hO : Ow gp (.slice an nn cn) s.p V) (zb zn : Int) (hb : zb = s.b) (hn : zn = s.n) (hll : l.length ≤ 100000000) :
    ∃ v' W, Hid (∀ ty, (Builtin.append_ #[31, 31] ty #[v, .slice (some ⟨V.heap.size, 0, none⟩) 1 1]).run Try.prog (V.alloc (.cells #[.slice an nn cn, .int .i64 zb, .int .i64 zn] 36)) = .ok v' W) ∧ (∃ a' c', v' = .slice a' (l ++ [s]).length c') ∧ (∃ gs qs, SqL (fun k => k < w.heap.size) v' (l ++ [s]) gs qs W) ∧ Nw w W := by
  subst hb hn
  obtain ⟨gs, qs, hL⟩ := hl
  have hN : Nw V (V.alloc (.cells #[.slice an nn cn, .int .i64 s.b, .int .i64 s.n] 36)) := (Fr.refl _ _).alloc _
  have hsz : (V.alloc (.cells #[.slice an nn cn, .int .i64 s.b, .int .i64 s.n] 36)).heap.size = V.heap.size + 1 := by simp
  have hsV := hV.size
  have hsw := hw.size
  obtain ⟨v', W, hap, hL', hF⟩ := (hL.nw (hV.trans hN)).app (fun k hk => by rw [hsz]; omega) gp ⟨an, nn, cn, s.b, s.n⟩ s (hO.nw hN) rfl rfl (by omega) (fun hm => by have := (hL.at gp hm).2; omega) (fun g hg => by
    rcases hL.row with ⟨e1, _⟩ | ⟨g1, _, _, e3⟩
    · obtain ⟨xs, e, _⟩ := hg
      rw [e1] at e; cases e
    · rw [OwS.uniq hg e3]; have := e3.lt; omega) V.heap.size (new_heap _ _) hll
  obtain ⟨a', c', e', _, _⟩ := hL'.form
  exact ⟨v', W, hap, ⟨a', c', e'⟩, ⟨_, _, hL'⟩, Fr.then ((hw.trans hV).trans hN) hF (fun k hk => .inr (by omega))⟩
set_option maxHeartbeats 32000000 in
set_option maxRecDepth 100000 in
theorem rParse_any (w : World) (vb : Value) (b : List By) (hb : Old w vb b) (hbl : b.length ≤ 100000000) :
    Calls Try.prog 16 #[vb] w (RParsd (parse b) w) := by
  obtain ⟨P, hP⟩ : ∃ P, P = RParsd (parse b) w := ⟨_, rfl⟩
  rw [← hP]
  have HP : Hid (P = RParsd (parse b) w) := hP
  clear hP
  obtain ⟨a, c, rfl, hIn⟩ : ∃ a c, vb = .slice a b.length c ∧ In a c b w := by
    rcases hb with ⟨a, rfl, rfl⟩ | ⟨g, hg, o, c, rfl, h1, h2, h3⟩
    · exact ⟨a, 0, rfl, by simp, by simp, by simp, fun h => absurd rfl h⟩
    · exact ⟨_, c, rfl, h1, h2, by omega, fun _ => ⟨g, o, rfl, h3⟩⟩
  have HI0 : Hid (RQ w b 0 [] (.slice (some ⟨w.heap.size, 0, none⟩) 0 0) (w.alloc (.cells #[] 36))) := by
    refine ⟨⟨[], [], ⟨rfl, rfl, fun i g q s h1 _ _ => by simp at h1, List.nodup_nil, .inr ⟨w.heap.size, by omega, by simp, [], rfl, rfl, by simp, by simp, new_heap _ _⟩⟩⟩, (Fr.refl _ _).alloc _, Nat.zero_le _, by simp, rfl⟩
  have HIN : Hid (In a c b w) := hIn
  have hc1 := hIn.1
  have hc2 := hIn.2.1
  clear hb hIn
  go_enter Try.func16, Try.ntmps16
  go_wp2_with fail
  go_loopg [5, 6] (b.length + 1) (fun kx o i wr => ∃ (I : Nat) (l : List Sq) (al : Option Addr) (cl ln : Nat), b.length + 1 - I ≤ kx ∧ o = .slice al ln cl ∧ i = .int .i64 I ∧ Hid (ln = l.length ∧ RQ w b I l (.slice al ln cl) wr))
  case atStart => exact ⟨0, [], _, _, 0, by omega, rfl, rfl, rfl, HI0⟩
  case round =>
    obtain ⟨i, l, al, cl, ln, hkx, rfl, rfl, HI'⟩ := hrel
    clear HI0
    obtain ⟨hln, HIq⟩ := HI'.out
    have HI : Hid (RQ w b i l (.slice al ln cl) wr) := HIq
    clear HIq HI'
    have hB0 := rbegin_any a c b wr (HIN.out.nw HI.out.nw) i HI.out.le
    have hile := HI.out.le
    have hll := HI.out.ll
    have hNwr := HI.out.nw
    have hRD : ∀ V x y, Nw w V → scanS ls b.length (b.drop i) ⟨l, ⟨[], 0, 0⟩, 0⟩ = .bad x y → P (.returned (.tuple #[.slice none 0 0, .int .i64 x, .int .i64 y])) V := fun V x y hV hs => by
      rw [HP.out, parse, HI.out.sc, hs]
      exact ⟨_, _, [], [], rfl, SqL.nil _ _, hV⟩
    by_cases hnum : (beg b i).2.2 = false
    · have hsc : scanS ls b.length (b.drop i) ⟨l, ⟨[], 0, 0⟩, 0⟩ = .bad b.length 4 := by
        unfold beg at hnum
        cases hd : b.drop i with
        | nil => rw [scanS]
        | cons tok r =>
          rw [hd] at hnum
          rw [scanS_cons]
          cases hn : num (tok.toNat / 16) r with
          | none => simp only [plainS, hn]
          | some p => obtain ⟨n, k⟩ := p; simp [hn] at hnum
      have HB : Hid (Calls Try.prog 30 #[.slice a b.length c, .int .i64 i] wr fun e w1 => ∃ x y : Nat, e = .returned (.agg #[.int .i64 i, .int .i64 x, .int .i64 y, .bool false]) ∧ Hid (∀ V, Nw w1 V → P (.returned (.tuple #[.slice none 0 0, .int .i64 b.length, .int .i64 4])) V)) := by
        show Calls _ _ _ _ _
        refine hB0.mono ?_
        rintro e w1 ⟨rfl, hN⟩
        exact ⟨_, _, by rw [hnum], fun V hV => hRD V _ _ ((hNwr.trans hN).trans hV) hsc⟩
      clear hB0 hRD HP HI HIN hsc hnum hln
      go_wp2_with (first | (go_at_call 30; with_reducible refine (HB.out).mono ?_; rintro e w1 ⟨x, y, rfl, HF⟩))
      exact HF.out _ ((Fr.refl _ _).alloc _)
    · obtain ⟨hlt, n, k, hn⟩ : ∃ hlt : i < b.length, ∃ n k, num (b[i].toNat / 16) (b.drop (i + 1)) = some (n, k) := by
        unfold beg at hnum
        by_cases hlt : i < b.length
        · rw [List.drop_eq_getElem_cons hlt] at hnum
          cases hn : num (b[i].toNat / 16) (b.drop (i + 1)) with
          | none => simp [hn] at hnum
          | some p => exact ⟨hlt, p.1, p.2, hn⟩
        · rw [show b.drop i = [] by simp; omega] at hnum
          simp at hnum
      have hdr : b.drop i = b[i] :: b.drop (i + 1) := List.drop_eq_getElem_cons hlt
      have hlen1 : (b.drop (i + 1)).length = b.length - (i + 1) := by simp
      have hx := b[i].isLt
      have hnk := num_le hn (by omega)
      rw [hlen1] at hnk
      have hbeg : beg b i = (i + 1 + k, i + 1 + k + n, true) := by
        unfold beg
        rw [hdr]
        simp only [hn]
      have HB : Hid (Calls Try.prog 30 #[.slice a b.length c, .int .i64 i] wr fun e w1 => e = .returned (.agg #[.int .i64 i, .int .i64 (i + 1 + k : Nat), .int .i64 (i + 1 + k + n : Nat), .bool true]) ∧ Hid (Nw wr w1)) := by
        show Calls _ _ _ _ _
        refine hB0.mono ?_
        rintro e w1 ⟨rfl, hN⟩
        exact ⟨by rw [hbeg], hN⟩
      have hscr := scanS_cons ls b.length b[i] (b.drop (i + 1)) ⟨l, ⟨[], 0, 0⟩, 0⟩
      rw [← hdr] at hscr
      have hpl : plainS ls b.length (b[i].toNat / 16) (b.drop (i + 1)) ⟨l, ⟨[], 0, 0⟩, 0⟩ = if (b.drop (i + 1)).length - k < n then .bad b.length 4 else .ok ((b.drop (i + 1)).drop (k + n)) ⟨l, ⟨((b.drop (i + 1)).drop k).take n, 0, 0⟩, 1⟩ := by
        simp only [plainS, hn]
        rfl
      clear hB0 hnum
      by_cases hsh : b.length < i + 1 + k + n
      · rw [if_pos (by omega)] at hpl
        simp only [hpl] at hscr
        have HF : Hid (∀ w1 V, Nw wr w1 → Nw w1 V → P (.returned (.tuple #[.slice none 0 0, .int .i64 b.length, .int .i64 4])) V) := fun w1 V h1 hV => hRD V _ _ ((hNwr.trans h1).trans hV) hscr
        clear hRD HP HI HIN hscr hpl hbeg hdr hn hln
        generalize hf : i + 1 + k = f at *
        generalize ht : f + n = t at *
        have F2 : (b.length : Int) < (t : Int) := by omega
        have F2b : b.length < t := by omega
        clear hf ht
        go_wp2_with (first | (go_at_call 30; with_reducible refine (HB.out).mono ?_; rintro e w1 ⟨rfl, hN1⟩))
        exact HF.out _ _ hN1.out ((Fr.refl _ _).alloc _)
      · rw [if_neg (by omega)] at hpl
        obtain ⟨g, o, rfl, hrd⟩ := HIN.out.2.2.2 (by intro e; rw [e] at hlt; simp at hlt)
        have hIn' := HIN.out
        obtain ⟨p, hp⟩ : ∃ p, p = ((b.drop (i + 1)).drop k).take n := ⟨_, rfl⟩
        have hpe : p = (b.drop (i + 1 + k)).take n := by rw [hp, List.drop_drop]
        have hpl' : p.length = n := by rw [hpe]; simp; omega
        rw [← hp] at hpl
        simp only [hpl] at hscr
        rw [List.drop_drop, show i + 1 + (k + n) = i + 1 + k + n by omega] at hscr
        have HTOK : Hid (∀ V, Nw w V → V.cell? ⟨g, o + i, none⟩ = some (.int .u8 b[i].toNat)) := fun V hV => hV.cell (hrd i hlt)
        have HGL : Hid (g < w.heap.size) := World.block_lt_of_cell? _ _ (hrd i hlt)
        have hNwr' : Hid (Nw w wr) := hNwr
        have hsl' : ∀ ad cc, (ad = o + (i + 1 + k) ∨ n = 0) → n ≤ cc → cc < 9223372036854775808 → Sl (fun _ => False) (.slice (some ⟨g, ad, none⟩) n cc) p w := fun ad cc had hcc hcc2 => .inr ⟨g, fun h => h, ad, cc, by rw [hpl'], by rw [hpl']; exact hcc, hcc2, by
          rcases had with rfl | had
          · rw [hpe]; exact (hrd.drop _).take n
          · have : p = [] := List.length_eq_zero_iff.1 (by omega)
            rw [this]; exact Rd.nil _ _ _⟩
        have HCP0 := fun w1 (h1 : Nw wr w1) ad cc had hcc hcc2 => rp_copy w w1 (hNwr.trans h1) (.slice (some ⟨g, ad, none⟩) n cc) p (hsl' ad cc had hcc hcc2) (by rw [hpl']; omega) #[.int .i64 i, .int .i64 (i + 1 + k : Nat), .int .i64 (i + 1 + k + n : Nat), .bool true] 58
        rw [hpl'] at HCP0
        have NG : Hid (∀ V, Nw w V → ¬ g = V.heap.size) := fun V hV => by have := HGL.out; have := hV.size; omega
        by_cases hend : i + 1 + k + n = b.length
        · rw [if_pos (by rw [hend]; simp)] at hscr
          by_cases hlow : b[i].toNat % 16 = 0
          · rw [if_pos hlow] at hscr
            have HLS : Hid (∀ w1 W2 gp cp, Nw wr w1 → Nw w1 W2 → Ow gp (.slice (some ⟨gp, 0, none⟩) n cp) p W2 → w1.heap.size + 1 ≤ gp → ∃ v' W, Hid (∀ ty, (Builtin.append_ #[31, 31] ty #[.slice al ln cl, .slice (some ⟨W2.heap.size + 1, 0, none⟩) 1 1]).run Try.prog ((W2.alloc (.cells #[.slice (some ⟨gp, 0, none⟩) n cp, .int .i64 0, .int .i64 0] 36)).alloc (.cells #[.slice (some ⟨gp, 0, none⟩) n cp, .int .i64 0, .int .i64 0] 36)) = .ok v' W) ∧ Hid (P (.returned (.tuple #[v', .int .i64 0, .int .i64 0])) W)) := fun w1 W2 gp cp h1 h2 hO hgp => by
              have hsz : (W2.alloc (.cells #[.slice (some ⟨gp, 0, none⟩) n cp, .int .i64 0, .int .i64 0] 36)).heap.size = W2.heap.size + 1 := by simp
              have h3 : Nw W2 (W2.alloc (.cells #[.slice (some ⟨gp, 0, none⟩) n cp, .int .i64 0, .int .i64 0] 36)) := (Fr.refl _ _).alloc _
              obtain ⟨v', W, hap, ⟨a', c', e'⟩, ⟨gs, qs, hL⟩, hNW⟩ := RQ.app HI.out.list ((h1.trans h2).trans h3) hNwr gp (by have := h1.size; omega) ⟨p, 0, 0⟩ _ _ _ (hO.nw h3) 0 0 rfl rfl (by omega)
              rw [hsz] at hap
              refine ⟨v', W, hap, ?_⟩
              show P _ _
              subst e'
              rw [HP.out, parse, HI.out.sc, hscr]
              exact ⟨a', c', gs, qs, rfl, hL, hNW⟩
            have hlow' : ((b[i].toNat : Nat) : Int) % 16 = 0 := by omega
            by_cases hcf : c = i + 1 + k
            · have HCP : Hid (∀ w1, Nw wr w1 → _) := fun w1 h1 => HCP0 w1 h1 o 0 (.inr (by omega)) (by omega) (by omega)
              clear hRD HP HI HIN hscr hbeg hdr hn hrd hIn' hsl' hnk hlen1 HCP0 hpl hpe hp hln hNwr hlow
              obtain rfl : n = 0 := by omega
              have e1 : i + 1 + k = b.length := by omega
              rw [Nat.add_zero, e1] at HB HCP
              obtain rfl : c = b.length := by omega
              generalize b[i].toNat = tok at *
              clear e1 hend hcf
              go_wp2_with (first
                | (go_at_call 30; with_reducible refine (HB.out).mono ?_; rintro e w1 ⟨rfl, hN1⟩; obtain ⟨gp, cp, W2, HAP, HO2, HN2, hgp, hs2, HCS⟩ := HCP.out w1 hN1.out; have q0 := HCS.out 0 _ rfl; have q2 := HCS.out 2 _ rfl; have t0 := HTOK.out _ (hNwr'.out.trans (hN1.out.trans HN2.out)); have r0 := Nw.cell ((Fr.refl (fun _ => False) W2).alloc (.cells #[.slice (some ⟨gp, 0, none⟩) 0 cp, .int .i64 0, .int .i64 0] 36)) q0; have r2 := Nw.cell ((Fr.refl (fun _ => False) W2).alloc (.cells #[.slice (some ⟨gp, 0, none⟩) 0 cp, .int .i64 0, .int .i64 0] 36)) q2; have s0 := Nw.cell ((Fr.refl (fun _ => False) W2).alloc (.cells #[.slice (some ⟨gp, 0, none⟩) 0 cp, .int .i64 0, .int .i64 0] 36)) t0; have n1 : ¬ w1.heap.size = W2.heap.size := (by omega); have n2 : ¬ g = W2.heap.size := NG.out _ (hNwr'.out.trans (hN1.out.trans HN2.out)); obtain ⟨v5, W5, HAPS, HFIN⟩ := HLS.out w1 W2 gp cp hN1.out HN2.out HO2.out hgp)
                | (at_builtin; refine Lib.wpList_append_run _ rfl _ _ 22 22 rfl (.slice (some ⟨w1.heap.size + 1, 0, none⟩) 0 0) (.slice (some ⟨g, o, none⟩) 0 0) (by simp [Act.eval]) (by simp [Act.eval]) _ _ (HAP.out _) ?_)
                | (at_builtin; refine Lib.wpList_append_run _ rfl _ _ 31 31 rfl (.slice al ln cl) (.slice (some ⟨W2.heap.size + 1, 0, none⟩) 1 1) (by simp [Act.eval]) (by simp [Act.eval]) _ _ (HAPS.out _) ?_))
              exact HFIN.out
            · have HCP : Hid (∀ w1, Nw wr w1 → _) := fun w1 h1 => HCP0 w1 h1 (o + (i + 1 + k)) (c - (i + 1 + k)) (.inl rfl) (by omega) (by omega)
              clear hRD HP HI HIN hscr hbeg hdr hn hrd hIn' hsl' hnk hlen1 HCP0 hpl hpe hp hln hNwr hlow
              generalize b[i].toNat = tok at *
              rw [hend] at HB HCP
              generalize hf : i + 1 + k = f at *
              have htf : b.length - f = n := by omega
              have hfl : f ≤ b.length := by omega
              have hft : (f : Int) ≤ (b.length : Int) := by omega
              have htc : (b.length : Int) ≤ (c : Int) := by omega
              clear hf
              clear hend
              go_wp2_with (first
                | (go_at_call 30; with_reducible refine (HB.out).mono ?_; rintro e w1 ⟨rfl, hN1⟩; obtain ⟨gp, cp, W2, HAP, HO2, HN2, hgp, hs2, HCS⟩ := HCP.out w1 hN1.out; have q0 := HCS.out 0 _ rfl; have q2 := HCS.out 2 _ rfl; have t0 := HTOK.out _ (hNwr'.out.trans (hN1.out.trans HN2.out)); have r0 := Nw.cell ((Fr.refl (fun _ => False) W2).alloc (.cells #[.slice (some ⟨gp, 0, none⟩) n cp, .int .i64 0, .int .i64 0] 36)) q0; have r2 := Nw.cell ((Fr.refl (fun _ => False) W2).alloc (.cells #[.slice (some ⟨gp, 0, none⟩) n cp, .int .i64 0, .int .i64 0] 36)) q2; have s0 := Nw.cell ((Fr.refl (fun _ => False) W2).alloc (.cells #[.slice (some ⟨gp, 0, none⟩) n cp, .int .i64 0, .int .i64 0] 36)) t0; have n1 : ¬ w1.heap.size = W2.heap.size := (by omega); have n2 : ¬ g = W2.heap.size := NG.out _ (hNwr'.out.trans (hN1.out.trans HN2.out)); obtain ⟨v5, W5, HAPS, HFIN⟩ := HLS.out w1 W2 gp cp hN1.out HN2.out HO2.out hgp)
                | (at_builtin; refine Lib.wpList_append_run _ rfl _ _ 22 22 rfl (.slice (some ⟨w1.heap.size + 1, 0, none⟩) 0 0) (.slice (some ⟨g, o + f, none⟩) n (c - f)) (by simp [Act.eval]) (by simp [Act.eval]) _ _ (HAP.out _) ?_)
                | (at_builtin; refine Lib.wpList_append_run _ rfl _ _ 31 31 rfl (.slice al ln cl) (.slice (some ⟨W2.heap.size + 1, 0, none⟩) 1 1) (by simp [Act.eval]) (by simp [Act.eval]) _ _ (HAPS.out _) ?_))
              exact HFIN.out
          · rw [if_neg hlow, hlen1, show b.length - (b.length - (i + 1) + 1) = i by omega] at hscr
            have HFIN : Hid (∀ W2, Nw w W2 → P (.returned (.tuple #[.slice none 0 0, .int .i64 i, .int .i64 31])) W2) := fun W2 hV => hRD W2 _ _ hV hscr
            have hlow' : ¬ ((b[i].toNat : Nat) : Int) % 16 = 0 := by omega
            by_cases hcf : c = i + 1 + k
            · have HCP : Hid (∀ w1, Nw wr w1 → _) := fun w1 h1 => HCP0 w1 h1 o 0 (.inr (by omega)) (by omega) (by omega)
              clear hRD HP HI HIN hscr hbeg hdr hn hrd hIn' hsl' hnk hlen1 HCP0 hpl hpe hp hln hNwr hlow
              obtain rfl : n = 0 := by omega
              have e1 : i + 1 + k = b.length := by omega
              rw [Nat.add_zero, e1] at HB HCP
              obtain rfl : c = b.length := by omega
              generalize b[i].toNat = tok at *
              clear e1 hend hcf
              go_wp2_with (first
                | (go_at_call 30; with_reducible refine (HB.out).mono ?_; rintro e w1 ⟨rfl, hN1⟩; obtain ⟨gp, cp, W2, HAP, HO2, HN2, hgp, hs2, HCS⟩ := HCP.out w1 hN1.out; have q0 := HCS.out 0 _ rfl; have q2 := HCS.out 2 _ rfl; have t0 := HTOK.out _ (hNwr'.out.trans (hN1.out.trans HN2.out)); have r0 := Nw.cell ((Fr.refl (fun _ => False) W2).alloc (.cells #[.slice (some ⟨gp, 0, none⟩) 0 cp, .int .i64 0, .int .i64 0] 36)) q0; have r2 := Nw.cell ((Fr.refl (fun _ => False) W2).alloc (.cells #[.slice (some ⟨gp, 0, none⟩) 0 cp, .int .i64 0, .int .i64 0] 36)) q2; have s0 := Nw.cell ((Fr.refl (fun _ => False) W2).alloc (.cells #[.slice (some ⟨gp, 0, none⟩) 0 cp, .int .i64 0, .int .i64 0] 36)) t0; have n1 : ¬ w1.heap.size = W2.heap.size := (by omega); have n2 : ¬ g = W2.heap.size := NG.out _ (hNwr'.out.trans (hN1.out.trans HN2.out)))
                | (at_builtin; refine Lib.wpList_append_run _ rfl _ _ 22 22 rfl (.slice (some ⟨w1.heap.size + 1, 0, none⟩) 0 0) (.slice (some ⟨g, o, none⟩) 0 0) (by simp [Act.eval]) (by simp [Act.eval]) _ _ (HAP.out _) ?_))
              go_quiet (fail)
              go_wp2_with fail
              exact HFIN.out _ (((hNwr'.out.trans (hN1.out.trans HN2.out)).alloc _).drewN _)
            · have HCP : Hid (∀ w1, Nw wr w1 → _) := fun w1 h1 => HCP0 w1 h1 (o + (i + 1 + k)) (c - (i + 1 + k)) (.inl rfl) (by omega) (by omega)
              clear hRD HP HI HIN hscr hbeg hdr hn hrd hIn' hsl' hnk hlen1 HCP0 hpl hpe hp hln hNwr hlow
              generalize b[i].toNat = tok at *
              rw [hend] at HB HCP
              generalize hf : i + 1 + k = f at *
              have htf : b.length - f = n := by omega
              have hfl : f ≤ b.length := by omega
              have hft : (f : Int) ≤ (b.length : Int) := by omega
              have htc : (b.length : Int) ≤ (c : Int) := by omega
              clear hf
              clear hend
              go_wp2_with (first
                | (go_at_call 30; with_reducible refine (HB.out).mono ?_; rintro e w1 ⟨rfl, hN1⟩; obtain ⟨gp, cp, W2, HAP, HO2, HN2, hgp, hs2, HCS⟩ := HCP.out w1 hN1.out; have q0 := HCS.out 0 _ rfl; have q2 := HCS.out 2 _ rfl; have t0 := HTOK.out _ (hNwr'.out.trans (hN1.out.trans HN2.out)); have r0 := Nw.cell ((Fr.refl (fun _ => False) W2).alloc (.cells #[.slice (some ⟨gp, 0, none⟩) n cp, .int .i64 0, .int .i64 0] 36)) q0; have r2 := Nw.cell ((Fr.refl (fun _ => False) W2).alloc (.cells #[.slice (some ⟨gp, 0, none⟩) n cp, .int .i64 0, .int .i64 0] 36)) q2; have s0 := Nw.cell ((Fr.refl (fun _ => False) W2).alloc (.cells #[.slice (some ⟨gp, 0, none⟩) n cp, .int .i64 0, .int .i64 0] 36)) t0; have n1 : ¬ w1.heap.size = W2.heap.size := (by omega); have n2 : ¬ g = W2.heap.size := NG.out _ (hNwr'.out.trans (hN1.out.trans HN2.out)))
                | (at_builtin; refine Lib.wpList_append_run _ rfl _ _ 22 22 rfl (.slice (some ⟨w1.heap.size + 1, 0, none⟩) 0 0) (.slice (some ⟨g, o + f, none⟩) n (c - f)) (by simp [Act.eval]) (by simp [Act.eval]) _ _ (HAP.out _) ?_))
              go_quiet (fail)
              go_wp2_with fail
              exact HFIN.out _ (((hNwr'.out.trans (hN1.out.trans HN2.out)).alloc _).drewN _)
        · have htlt : i + 1 + k + n < b.length := by omega
          rw [if_neg (by intro h; have := congrArg List.length h; simp at this; omega), ls_match] at hscr
          have HCP : Hid (∀ w1, Nw wr w1 → _) := fun w1 h1 => HCP0 w1 h1 (o + (i + 1 + k)) (c - (i + 1 + k)) (.inl rfl) (by omega) (by omega)
          have HMT0 := fun V (hV : Nw w V) => rmatch_any (some ⟨g, o, none⟩) c b V (hIn'.nw hV) i (i + 1 + k + n) hlt (by omega)
          obtain ⟨mb, mn, me, my, hm4⟩ : ∃ mb mn me my, mtc b (b[i].toNat % 16) (i + 1 + k + n) = (mb, mn, me, my) := ⟨_, _, _, _, rfl⟩
          have hml := mtc_le b (b[i].toNat % 16) (i + 1 + k + n) htlt (by omega)
          rw [hm4] at hscr hml
          simp only at hscr hml
          have HMT : Hid (∀ V, Nw w V → Calls Try.prog 31 #[.slice (some ⟨g, o, none⟩) b.length c, .int .i64 i, .int .i64 (i + 1 + k + n : Nat)] V fun e w3 => e = .returned (.tuple #[.int .i64 mb, .int .i64 mn, .int .i64 me, .int .i64 my]) ∧ Hid (Nw V w3)) := fun V hV => by
            show Calls _ _ _ _ _
            refine (HMT0 V hV).mono ?_
            rw [hm4]
            rintro e w3 ⟨rfl, hN3⟩
            exact ⟨rfl, hN3⟩
          by_cases hy : my = 0
          · rw [if_pos hy] at hscr
            obtain ⟨hm1, hm2, hm3, hm5⟩ := hml hy
            have hime : i + 1 ≤ me := by omega
            have HLS : Hid (∀ w1 W2 gp cp w4, Nw wr w1 → Nw w1 W2 → Ow gp (.slice (some ⟨gp, 0, none⟩) n cp) p W2 → w1.heap.size + 1 ≤ gp → Nw (W2.alloc (.cells #[.slice (some ⟨gp, 0, none⟩) n cp, .int .i64 0, .int .i64 0] 36)) w4 → (w4.cell? ⟨W2.heap.size, 0, none⟩ = some (.slice (some ⟨gp, 0, none⟩) n cp) ∧ w4.cell? ⟨W2.heap.size, 1, none⟩ = some (.int .i64 0) ∧ w4.cell? ⟨W2.heap.size, 2, none⟩ = some (.int .i64 0) ∧ w4.frozen? ⟨W2.heap.size, 1, none⟩ = false ∧ w4.frozen? ⟨W2.heap.size, 2, none⟩ = false) ∧ ∃ a' c' W, Hid (∀ ty, (Builtin.append_ #[31, 31] ty #[.slice al ln cl, .slice (some ⟨w4.heap.size, 0, none⟩) 1 1]).run Try.prog (((w4.setCell ⟨W2.heap.size, 1, none⟩ (.int .i64 mb)).setCell ⟨W2.heap.size, 2, none⟩ (.int .i64 mn)).alloc (.cells #[.slice (some ⟨gp, 0, none⟩) n cp, .int .i64 mb, .int .i64 mn] 36)) = .ok (.slice a' (ln + 1) c') W) ∧ Hid (ln + 1 = (l ++ [(⟨p, mb, mn⟩ : Sq)]).length ∧ RQ w b me (l ++ [(⟨p, mb, mn⟩ : Sq)]) (.slice a' (ln + 1) c') W)) := fun w1 W2 gp cp w4 h1 h2 hO hgp h4 => by
              have h3 : Nw W2 (W2.alloc (.cells #[.slice (some ⟨gp, 0, none⟩) n cp, .int .i64 0, .int .i64 0] 36)) := (Fr.refl _ _).alloc _
              have hsz : (W2.alloc (.cells #[.slice (some ⟨gp, 0, none⟩) n cp, .int .i64 0, .int .i64 0] 36)).heap.size = W2.heap.size + 1 := by simp
              have hs4 := h4.size
              have d0 : w4.cell? ⟨W2.heap.size, 0, none⟩ = some (.slice (some ⟨gp, 0, none⟩) n cp) := h4.cell (new_cell _ _ _ _ _ rfl)
              have d1 : w4.cell? ⟨W2.heap.size, 1, none⟩ = some (.int .i64 0) := h4.cell (new_cell _ _ _ _ _ rfl)
              have d2 : w4.cell? ⟨W2.heap.size, 2, none⟩ = some (.int .i64 0) := h4.cell (new_cell _ _ _ _ _ rfl)
              have e1 := (h4.frozen (p := ⟨W2.heap.size, 1, none⟩) (by rw [hsz]; show W2.heap.size < _; omega) (fun h => h)).trans (new_frozen _ _ _ _)
              have e2 := (h4.frozen (p := ⟨W2.heap.size, 2, none⟩) (by rw [hsz]; show W2.heap.size < _; omega) (fun h => h)).trans (new_frozen _ _ _ _)
              have hF5 : Fr (fun k => k = W2.heap.size) w4 ((w4.setCell ⟨W2.heap.size, 1, none⟩ (.int .i64 mb)).setCell ⟨W2.heap.size, 2, none⟩ (.int .i64 mn)) := ((Fr.refl (fun k => k = W2.heap.size) w4).setCell ⟨W2.heap.size, 1, none⟩ _ (.inl rfl)).setCell ⟨W2.heap.size, 2, none⟩ _ (.inl rfl)
              have hw5 : Nw wr ((w4.setCell ⟨W2.heap.size, 1, none⟩ (.int .i64 mb)).setCell ⟨W2.heap.size, 2, none⟩ (.int .i64 mn)) := Fr.then (((h1.trans h2).trans h3).trans h4) hF5 (fun k hk => .inr (by have := h1.size; have := h2.size; omega))
              have hO5 := ((hO.nw h3).nw h4).kept hF5 (by have := hO.lt; show ¬ gp = W2.heap.size; omega)
              obtain ⟨v', W, hap, ⟨a', c', e'⟩, ⟨gs, qs, hL⟩, hNW⟩ := RQ.app HI.out.list hw5 hNwr gp (by have := h1.size; omega) ⟨p, mb, mn⟩ _ _ _ hO5 mb mn rfl rfl (by omega)
              have hszv : ((w4.setCell ⟨W2.heap.size, 1, none⟩ (.int .i64 mb)).setCell ⟨W2.heap.size, 2, none⟩ (.int .i64 mn)).heap.size = w4.heap.size := by simp
              rw [hszv] at hap
              have hlen : (l ++ [(⟨p, mb, mn⟩ : Sq)]).length = ln + 1 := by rw [List.length_append, List.length_singleton, hln]
              rw [hlen] at e'
              subst e'
              refine ⟨⟨d0, d1, d2, e1, e2⟩, a', c', W, hap, hlen.symm, ⟨gs, qs, hL⟩, hNW, hm2, by rw [hlen]; omega, ?_⟩
              rw [HI.out.sc, hscr]
              exact ls_now _ _ _ _ _ _ _
            have hlnb : ln ≤ 100000000 := by omega
            clear hRD HP HI HIN hscr hbeg hdr hn hrd hIn' hsl' hnk hlen1 HCP0 hpl hpe hp hln hNwr HMT0 hml hm4
            generalize b[i].toNat = tok at *
            generalize hf : i + 1 + k = f at *
            generalize ht : f + n = t at *
            have F2 : ¬ (b.length : Int) < (t : Int) := by omega
            have F2b : ¬ b.length < t := by omega
            have htf : t - f = n := by omega
            have hfl : f ≤ b.length := by omega
            have hft : (f : Int) ≤ (t : Int) := by omega
            have hft' : f ≤ t := by omega
            have htc : (t : Int) ≤ (c : Int) := by omega
            have htL : t ≤ b.length := by omega
            have F3 : ¬ (t : Int) = (b.length : Int) := by omega
            have hcf : ¬ c = f := by omega
            clear hf ht hend
            subst hy
            go_wp2_with (first
              | (go_at_call 30; with_reducible refine (HB.out).mono ?_; rintro e w1 ⟨rfl, hN1⟩; obtain ⟨gp, cp, W2, HAP, HO2, HN2, hgp, hs2, HCS⟩ := HCP.out w1 hN1.out; have q0 := HCS.out 0 _ rfl; have q2 := HCS.out 2 _ rfl; have t0 := HTOK.out _ (hNwr'.out.trans (hN1.out.trans HN2.out)); have r0 := Nw.cell ((Fr.refl (fun _ => False) W2).alloc (.cells #[.slice (some ⟨gp, 0, none⟩) n cp, .int .i64 0, .int .i64 0] 36)) q0; have r2 := Nw.cell ((Fr.refl (fun _ => False) W2).alloc (.cells #[.slice (some ⟨gp, 0, none⟩) n cp, .int .i64 0, .int .i64 0] 36)) q2; have s0 := Nw.cell ((Fr.refl (fun _ => False) W2).alloc (.cells #[.slice (some ⟨gp, 0, none⟩) n cp, .int .i64 0, .int .i64 0] 36)) t0; have n1 : ¬ w1.heap.size = W2.heap.size := (by omega); have n2 : ¬ g = W2.heap.size := NG.out _ (hNwr'.out.trans (hN1.out.trans HN2.out)))
              | (at_builtin; refine Lib.wpList_append_run _ rfl _ _ 22 22 rfl (.slice (some ⟨w1.heap.size + 1, 0, none⟩) 0 0) (.slice (some ⟨g, o + f, none⟩) n (c - f)) (by simp [Act.eval]) (by simp [Act.eval]) _ _ (HAP.out _) ?_)
              | (go_at_call 31; with_reducible refine (HMT.out _ ((hNwr'.out.trans (hN1.out.trans HN2.out)).alloc _)).mono ?_; rintro e w4 ⟨rfl, hN4⟩; obtain ⟨⟨d0, d1, d2, e1, e2⟩, a5, c5, W5, HAPS, HRQ⟩ := HLS.out w1 W2 gp cp w4 hN1.out HN2.out HO2.out hgp hN4.out)
              | (at_builtin; refine Lib.wpList_append_run _ rfl _ _ 31 31 rfl (.slice al ln cl) (.slice (some ⟨w4.heap.size, 0, none⟩) 1 1) (by simp [Act.eval]) (by simp [Act.eval]) _ _ (HAPS.out _) ?_))
            go_roundg (b.length - i)
            case measure => omega
            case rel => exact ⟨me, _, a5, c5, ln + 1, by omega, rfl, rfl, HRQ⟩
          · rw [if_neg hy] at hscr
            have HFIN : Hid (∀ W2, Nw w W2 → P (.returned (.tuple #[.slice none 0 0, .int .i64 me, .int .i64 my])) W2) := fun W2 hV => hRD W2 _ _ hV hscr
            have hy' : ¬ (my : Int) = 0 := by omega
            clear hRD HP HI HIN hscr hbeg hdr hn hrd hIn' hsl' hnk hlen1 HCP0 hpl hpe hp hln hNwr HMT0 hml hm4
            generalize b[i].toNat = tok at *
            generalize hf : i + 1 + k = f at *
            generalize ht : f + n = t at *
            have F2 : ¬ (b.length : Int) < (t : Int) := by omega
            have F2b : ¬ b.length < t := by omega
            have htf : t - f = n := by omega
            have hfl : f ≤ b.length := by omega
            have hft : (f : Int) ≤ (t : Int) := by omega
            have hft' : f ≤ t := by omega
            have htc : (t : Int) ≤ (c : Int) := by omega
            have htL : t ≤ b.length := by omega
            have F3 : ¬ (t : Int) = (b.length : Int) := by omega
            have hcf : ¬ c = f := by omega
            clear hf ht hend hy
            go_wp2_with (first
              | (go_at_call 30; with_reducible refine (HB.out).mono ?_; rintro e w1 ⟨rfl, hN1⟩; obtain ⟨gp, cp, W2, HAP, HO2, HN2, hgp, hs2, HCS⟩ := HCP.out w1 hN1.out; have q0 := HCS.out 0 _ rfl; have q2 := HCS.out 2 _ rfl; have t0 := HTOK.out _ (hNwr'.out.trans (hN1.out.trans HN2.out)); have r0 := Nw.cell ((Fr.refl (fun _ => False) W2).alloc (.cells #[.slice (some ⟨gp, 0, none⟩) n cp, .int .i64 0, .int .i64 0] 36)) q0; have r2 := Nw.cell ((Fr.refl (fun _ => False) W2).alloc (.cells #[.slice (some ⟨gp, 0, none⟩) n cp, .int .i64 0, .int .i64 0] 36)) q2; have s0 := Nw.cell ((Fr.refl (fun _ => False) W2).alloc (.cells #[.slice (some ⟨gp, 0, none⟩) n cp, .int .i64 0, .int .i64 0] 36)) t0; have n1 : ¬ w1.heap.size = W2.heap.size := (by omega); have n2 : ¬ g = W2.heap.size := NG.out _ (hNwr'.out.trans (hN1.out.trans HN2.out)))
              | (at_builtin; refine Lib.wpList_append_run _ rfl _ _ 22 22 rfl (.slice (some ⟨w1.heap.size + 1, 0, none⟩) 0 0) (.slice (some ⟨g, o + f, none⟩) n (c - f)) (by simp [Act.eval]) (by simp [Act.eval]) _ _ (HAP.out _) ?_)
              | (go_at_call 31; with_reducible refine (HMT.out _ ((hNwr'.out.trans (hN1.out.trans HN2.out)).alloc _)).mono ?_; rintro e w4 ⟨rfl, hN4⟩))
            exact HFIN.out _ (((hNwr'.out.trans (hN1.out.trans HN2.out)).alloc _).trans hN4.out)
end Go.Proofs.Ytpnacppmdlnjlaa
