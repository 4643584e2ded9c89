import Derived.Test.YtdeefemeiggolaaQh
namespace Go.Proofs.Ytdeefemeiggolaa
open Go.RowKit
set_option linter.unusedVariables false
/-! ### Two takers that differ in nothing that is asked -/
structure Alk {σ : Type} (T U : Tk σ) : Prop where
  room : ∀ s n, T.room s n = U.room s n
  plain : ∀ s p, T.plain s p = U.plain s p
  reaches : ∀ s n, n < 65536 → T.reaches s n = U.reaches s n
  mat : ∀ s b n, 1 ≤ b → b < 65536 → T.reaches s b = true → T.mat s b n = U.mat s b n
  fin : ∀ s, T.fin s = U.fin s
theorem Alk.plain_eq {σ : Type} {T U : Tk σ} (h : Alk T U) (L low : Nat) (r : List By) (s : σ) : plainS T L low r s = plainS U L low r s := by
  simp only [plainS, h.room, h.plain]
theorem Alk.match_eq {σ : Type} {T U : Tk σ} (h : Alk T U) (L low : Nat) (r : List By) (s : σ) : matchS T L low r s = matchS U L low r s := by
  match r with
  | [] => rfl
  | [x] => rfl
  | x :: y :: r4 =>
    have hx := x.isLt
    have hy := y.isLt
    have hr := h.reaches s (x.toNat + 256 * y.toNat) (by omega)
    simp only [matchS, ← hr]
    by_cases hc : x.toNat + 256 * y.toNat = 0 ∨ T.reaches s (x.toNat + 256 * y.toNat) = false
    · rw [if_pos hc, if_pos hc]
    · rw [if_neg hc, if_neg hc]
      have hre : T.reaches s (x.toNat + 256 * y.toNat) = true := by
        cases hq : T.reaches s (x.toNat + 256 * y.toNat) with
        | true => rfl
        | false => exact absurd (.inr hq) hc
      cases num low r4 with
      | none => rfl
      | some p =>
        obtain ⟨n, k⟩ := p
        simp only [h.room]
        rw [h.mat s _ _ (by omega) (by omega) hre]
theorem Alk.scan_eq {σ : Type} {T U : Tk σ} (h : Alk T U) (L : Nat) : ∀ (m : Nat) (r : List By) (s : σ), r.length ≤ m → scanS T L r s = scanS U L r s := by
  intro m
  induction m with
  | zero =>
    intro r s hr
    obtain rfl : r = [] := List.length_eq_zero_iff.1 (by omega)
    rw [scanS, scanS]
  | succ m ih =>
    intro r s hr
    cases r with
    | nil => rw [scanS, scanS]
    | cons tok r1 =>
      rw [scanS_cons, scanS_cons, h.plain_eq]
      cases hp : plainS U L (tok.toNat / 16) r1 s with
      | bad a y => rfl
      | ok r3 s1 =>
        simp only [h.fin, h.match_eq]
        by_cases h3 : r3 = []
        · rw [if_pos h3, if_pos h3]
        · rw [if_neg h3, if_neg h3]
          cases hm : matchS U L (tok.toNat % 16) r3 s1 with
          | bad a y => rfl
          | ok r5 s2 =>
            have h1 := plainS_le hp
            have h2 := matchS_le hm
            simp only [List.length_cons] at hr
            exact ih r5 s2 (by omega)
theorem win_alk (ahead : List By) (most : Nat) : Alk (pl ahead most) (pl (win ahead) most) := by
  have hwl := win_length ahead
  refine ⟨fun _ _ => rfl, fun _ _ => rfl, fun s n hn => ?_, fun s b n h1 h2 hr => ?_, fun _ => rfl⟩
  · show decide _ = decide _
    rw [decide_eq_decide]; omega
  · have hr' : b ≤ ahead.length + s.length := by simpa [pl] using hr
    have e : ahead = ahead.take (ahead.length - 65535) ++ win ahead := (List.take_append_drop _ _).symm
    have e1 := pl_mat ahead most s b n h1 hr'
    have e2 := pl_mat (win ahead) most s b n h1 (by omega)
    have e3 : cop (ahead ++ s) b n = ahead.take (ahead.length - 65535) ++ cop (win ahead ++ s) b n := by
      rw [← cop_far _ _ _ _ h1 (by simp; omega), ← List.append_assoc, ← e]
    rw [e3, ← e2, ← List.append_assoc, ← e] at e1
    exact List.append_cancel_left e1
/-- Decode's answer hangs on the window alone. -/
theorem dec_win (b ahead : List By) (most : Int) : dec b ahead most = dec b (win ahead) most := by
  unfold dec
  by_cases h : most < 0 ∨ 4194304 < most
  · rw [if_pos h, if_pos h]
  · rw [if_neg h, if_neg h, (win_alk ahead most.toNat).scan_eq b.length b.length b [] (Nat.le_refl _)]
end Go.Proofs.Ytdeefemeiggolaa

namespace Go.Proofs.Ytdeefemeiggolaa
open Go.RowKit
set_option linter.unusedVariables false
/-- What the document's Decode answers. -/
def RDecd (r : List By × Nat × Nat) (w : World) (e : Ending) (w' : World) : Prop :=
  ∃ a c, e = .returned (.tuple #[.slice a r.1.length c, .int .i64 r.2.1, .int .i64 r.2.2]) ∧ Sl (fun k => k < w.heap.size ∨ w'.heap.size ≤ k) (.slice a r.1.length c) r.1 w' ∧ Nw w w'
theorem RDecd.none {x y : Nat} {w w' : World} (h : Nw w w') : RDecd ([], x, y) w (.returned (.tuple #[.slice none 0 0, .int .i64 x, .int .i64 y])) w' := ⟨_, _, rfl, .inl ⟨_, rfl, rfl⟩, h⟩
/-- The plain bytes put behind. -/
theorem rdec_app (w wr w1 : World) (hw : Nw w wr) (h1 : Nw wr w1) (g : Nat) (v : Value) (l : List By) (hg : w.heap.size ≤ g) (hO : Ow g v l wr) (x : Value) (p : List By) (hx : Sl (fun _ => False) x p w) (hb : l.length + p.length ≤ 1000000000) (cs : Array Value) (t : TypeId) :
    ∃ g' c' W2, Hid (∀ ty, (Builtin.append_ #[22, 22] ty #[v, x]).run Try.prog (w1.alloc (.cells cs t)) = .ok (.slice (some ⟨g', 0, none⟩) (l ++ p).length c') W2) ∧ Hid (Ow g' (.slice (some ⟨g', 0, none⟩) (l ++ p).length c') (l ++ p) W2) ∧ Hid (Nw w W2) ∧ w.heap.size ≤ g' ∧ (l ++ p).length ≤ c' ∧ c' < 9223372036854775808 ∧ Hid (∀ j v, cs[j]? = some v → W2.cell? ⟨w1.heap.size, j, none⟩ = some v) := by
  have hN1 : Nw w1 (w1.alloc (.cells cs t)) := (Fr.refl _ _).alloc _
  have hsz : (w1.alloc (.cells cs t)).heap.size = w1.heap.size + 1 := by simp
  have hs := (hw.trans h1).size
  have hgl := hO.lt
  have hs1 := h1.size
  obtain ⟨v', g', W2, hap, hM2, hF, hg'⟩ := app_any (w1.alloc (.cells cs t)) g v l (hO.nw (h1.trans hN1)) x p (hx.nw ((hw.trans h1).trans hN1)) (by omega)
  have hM2' := hM2
  obtain ⟨xs, rfl, _, x3, x4, _⟩ := hM2'
  refine ⟨g', xs.length, W2, hap, hM2, Fr.then ((hw.trans h1).trans hN1) hF (fun i hi => .inr (by omega)), ?_, x3, x4, fun j v hv => ?_⟩
  · rcases hg' with h | h <;> omega
  · exact hF.cellv (new_cell _ _ _ _ _ hv) (by show ¬ w1.heap.size = g; omega)
/-- How the loop stands. -/
structure RI (w : World) (b W : List By) (m : Nat) (i : Nat) (s : List By) (g c : Nat) (wr : World) : Prop where
  own : Ow g (.slice (some ⟨g, 0, none⟩) (W ++ s).length c) (W ++ s) wr
  base : w.heap.size ≤ g
  nw : Nw w wr
  le : i ≤ b.length
  sl : s.length ≤ m
  sc : scanS (pl W m) b.length b [] = scanS (pl W m) b.length (b.drop i) s
theorem matchS_at {σ : Type} (T : Tk σ) (b : List By) (lo t : Nat) (s : σ) (hy : t + 1 < b.length) : matchS T b.length lo (b.drop t) s = if b[t].toNat + 256 * b[t + 1].toNat = 0 ∨ T.reaches s (b[t].toNat + 256 * b[t + 1].toNat) = false then .bad t 30 else match num lo (b.drop (t + 2)) with
      | none => .bad b.length 4
      | some (n, k) => if T.room s (n + 4) = false then .bad t 32 else .ok ((b.drop (t + 2)).drop k) (T.mat s (b[t].toNat + 256 * b[t + 1].toNat) (n + 4)) := by
  have hdr : b.drop t = b[t] :: b[t + 1] :: b.drop (t + 2) := by rw [List.drop_eq_getElem_cons (by omega), List.drop_eq_getElem_cons hy]
  have e : b.length - (b[t] :: b[t + 1] :: b.drop (t + 2)).length = t := by simp; omega
  rw [hdr]
  simp only [matchS, e]
  by_cases hc : b[t].toNat + 256 * b[t + 1].toNat = 0 ∨ T.reaches s (b[t].toNat + 256 * b[t + 1].toNat) = false
  · rw [if_pos hc, if_pos hc]
  · rw [if_neg hc, if_neg hc]
    cases num lo (b.drop (t + 2)) <;> rfl
theorem mtc_at (b : List By) (lo t : Nat) (hy : t + 1 < b.length) (h0 : ¬ b[t].toNat + 256 * b[t + 1].toNat = 0) : mtc b lo t = match num lo (b.drop (t + 2)) with
      | none => (0, 0, b.length, 4)
      | some (n, k) => (b[t].toNat + 256 * b[t + 1].toNat, n + 4, t + 2 + k, 0) := by
  have hdr : b.drop t = b[t] :: b[t + 1] :: b.drop (t + 2) := by rw [List.drop_eq_getElem_cons (by omega), List.drop_eq_getElem_cons hy]
  unfold mtc
  rw [hdr]
  simp only [if_neg h0]
  cases num lo (b.drop (t + 2)) <;> rfl
theorem Ow.tail {g c : Nat} {l : List By} {w : World} (h : Ow g (.slice (some ⟨g, 0, none⟩) l.length c) l w) (n : Nat) (ad : Nat) (hn : n ≤ l.length) (hl : l.length ≤ c) (hc : c < 9223372036854775808) (had : ad = n ∨ n = c) : SlB g (.slice (some ⟨g, ad, none⟩) (l.drop n).length (c - n)) (l.drop n) w := by
  obtain ⟨o, c', e, _, _, hrd⟩ := h.slb
  injection e with e1 _ e3
  injection e1 with e1
  injection e1 with _ e1
  subst e1
  refine ⟨ad, c - n, rfl, by simp; omega, by omega, ?_⟩
  rcases had with rfl | had
  · have := hrd.drop ad; rw [Nat.zero_add] at this; exact this
  · rw [show l.drop n = [] by simp; omega]; exact Rd.nil _ _ _
set_option maxHeartbeats 32000000 in
set_option maxRecDepth 100000 in
theorem rDecode_any (w : World) (vb va : Value) (b ahead : List By) (most : Int) (hb : Old w vb b) (ha : Old w va ahead) (hbl : b.length ≤ 140737488351232) (hal : ahead.length ≤ 140737488351232) :
    Calls Try.prog 67 #[vb, va, .int .i64 most] w (RDecd (dec b ahead most) w) := by
  obtain ⟨P, hP⟩ : ∃ P, P = RDecd (dec b ahead most) w := ⟨_, rfl⟩
  rw [← hP]
  have HP : Hid (P = RDecd (dec b ahead most) w) := hP
  clear hP
  by_cases hm : most < 0 ∨ 4194304 < most
  · have HF : Hid (P (.returned (.tuple #[.slice none 0 0, .int .i64 0, .int .i64 1])) w) := by
      show P _ _
      rw [HP.out, dec, if_pos hm]
      exact RDecd.none (Fr.refl _ _)
    clear HP hb ha
    rcases hm with hm | hm
    · go_enter Try.func67, Try.ntmps67
      go_wp2
      exact HF.out
    · have h0 : ¬ most < 0 := by omega
      go_enter Try.func67, Try.ntmps67
      go_wp2
      exact HF.out
  · obtain ⟨m, rfl⟩ : ∃ m : Nat, most = m := ⟨most.toNat, by omega⟩
    have hml : m ≤ 4194304 := by omega
    obtain ⟨a, c, rfl, hIn⟩ : ∃ a c, vb = .slice a b.length c ∧ In a c b w := by
      rcases hb with ⟨a, rfl, rfl⟩ | ⟨g, hg, o, c, rfl, h1, h2, h3⟩
      · exact ⟨a, 0, rfl, by simp, by simp, by simp, fun h => absurd rfl h⟩
      · exact ⟨_, c, rfl, h1, h2, hbl, fun _ => ⟨g, o, rfl, h3⟩⟩
    have hdec : dec b ahead m = match scanS (pl (win ahead) m) b.length b [] with | .bad a y => ([], a, y) | .good s => (s, 0, 0) := by
      rw [dec_win, dec, if_neg hm]; rfl
    have hwl := win_length ahead
    generalize hW : win ahead = W at *
    have HWI : Hid (Calls Try.prog 78 #[va] w fun e w1 => ∃ g c, e = .returned (.slice (some ⟨g, 0, none⟩) W.length c) ∧ Hid (RI w b W m 0 [] g c w1)) := by
      refine (rwindow_any w va ahead ha hal).mono ?_
      rw [hW]
      rintro e w1 ⟨g, c, rfl, hg, hO, hN⟩
      exact ⟨g, c, rfl, by rw [List.append_nil]; exact hO, hg, hN, Nat.zero_le _, by simp, rfl⟩
    have hwl' : W.length ≤ 65535 := by omega
    have HIN : Hid (In a c b w) := hIn
    have hc1 := hIn.1
    have hc2 := hIn.2.1
    clear hb ha hm hIn hW hwl
    have hz0 : ¬ (m : Int) < 0 := by omega
    have hz1 : ¬ (4194304 : Int) < (m : Int) := by omega
    go_enter Try.func67, Try.ntmps67
    go_wp2_with (first | (go_at_call 78; with_reducible refine (HWI.out).mono ?_; rintro e w1 ⟨g0, c0, rfl, HI0⟩))
    clear HWI
    go_loopg [9, 11] (b.length + 1) (fun kx o i wr => ∃ (I : Nat) (s : List By) (go co : Nat), b.length + 1 - I ≤ kx ∧ o = .slice (some ⟨go, 0, none⟩) (W ++ s).length co ∧ i = .int .i64 I ∧ Hid (RI w b W m I s go co wr))
    case atStart => exact ⟨0, [], _, _, by omega, by rw [List.append_nil], rfl, HI0⟩
    case round =>
      obtain ⟨i, s, go, co, hkx, rfl, rfl, HI⟩ := hrel
      clear HI0
      have hB0 := rbegin_any a c b wr (HIN.out.nw HI.out.nw) i HI.out.le
      have hile := HI.out.le
      have hsl := HI.out.sl
      have hlo : (W ++ s).length = W.length + s.length := List.length_append
      have hRD : ∀ V x y, Nw w V → scanS (pl W m) b.length (b.drop i) s = .bad x y → P (.returned (.tuple #[.slice none 0 0, .int .i64 x, .int .i64 y])) V := fun V x y hV hs => by
        rw [HP.out, hdec, HI.out.sc, hs]
        exact RDecd.none hV
      by_cases hnum : (beg b i).2.2 = false
      · -- the bytes end
        have hsc : scanS (pl W m) b.length (b.drop i) s = .bad b.length 4 := by
          unfold beg at hnum
          cases hd : b.drop i with
          | nil => rw [scanS]
          | cons tok r =>
            rw [hd] at hnum
            rw [scanS_cons]
            cases hn : num (tok.toNat / 16) r with
            | none => simp only [plainS, hn]
            | some p => obtain ⟨n, k⟩ := p; simp [hn] at hnum
        have HB : Hid (Calls Try.prog 79 #[.slice a b.length c, .int .i64 i] wr fun e w1 => ∃ x y : Nat, e = .returned (.agg #[.int .i64 i, .int .i64 x, .int .i64 y, .bool false]) ∧ Hid (∀ V, Nw w1 V → P (.returned (.tuple #[.slice none 0 0, .int .i64 b.length, .int .i64 4])) V)) := by
          refine hB0.mono ?_
          rintro e w1 ⟨rfl, hN⟩
          exact ⟨_, _, by rw [hnum], fun V hV => hRD V _ _ ((HI.out.nw.trans hN).trans hV) hsc⟩
        clear hB0 hRD HP HI hdec HIN hsc hnum
        generalize (W ++ s).length = lo at *
        go_wp2_with (first | (go_at_call 79; with_reducible refine (HB.out).mono ?_; rintro e w1 ⟨x, y, rfl, HF⟩))
        exact HF.out _ ((Fr.refl _ _).alloc _)
      · -- there is a number
        obtain ⟨hlt, n, k, hn⟩ : ∃ hlt : i < b.length, ∃ n k, num (b[i].toNat / 16) (b.drop (i + 1)) = some (n, k) := by
          unfold beg at hnum
          by_cases hlt : i < b.length
          · rw [List.drop_eq_getElem_cons hlt] at hnum
            cases hn : num (b[i].toNat / 16) (b.drop (i + 1)) with
            | none => simp [hn] at hnum
            | some p => exact ⟨hlt, p.1, p.2, hn⟩
          · rw [show b.drop i = [] by simp; omega] at hnum
            simp at hnum
        have hdr : b.drop i = b[i] :: b.drop (i + 1) := List.drop_eq_getElem_cons hlt
        have hlen1 : (b.drop (i + 1)).length = b.length - (i + 1) := by simp
        have hx := b[i].isLt
        have hnk := num_le hn (by omega)
        rw [hlen1] at hnk
        have hbeg : beg b i = (i + 1 + k, i + 1 + k + n, true) := by
          unfold beg
          rw [hdr]
          simp only [hn]
        have HB : Hid (Calls Try.prog 79 #[.slice a b.length c, .int .i64 i] wr fun e w1 => e = .returned (.agg #[.int .i64 i, .int .i64 (i + 1 + k : Nat), .int .i64 (i + 1 + k + n : Nat), .bool true]) ∧ Hid (Nw wr w1)) := by
          refine hB0.mono ?_
          rintro e w1 ⟨rfl, hN⟩
          exact ⟨by rw [hbeg], hN⟩
        have hsc := HI.out.sc
        have hscr := scanS_cons (pl W m) b.length b[i] (b.drop (i + 1)) s
        rw [← hdr] at hscr
        have hpl : plainS (pl W m) b.length (b[i].toNat / 16) (b.drop (i + 1)) s = if (pl W m).room s n = false then .bad (b.length - ((b.drop (i + 1)).length - k)) 32 else if (b.drop (i + 1)).length - k < n then .bad b.length 4 else .ok ((b.drop (i + 1)).drop (k + n)) ((pl W m).plain s (((b.drop (i + 1)).drop k).take n)) := by
          simp only [plainS, hn]
        have hNwr := HI.out.nw
        clear hB0 hnum
        by_cases hroom : n + s.length ≤ m
        · have hroom' : (pl W m).room s n = true := by simpa [pl] using hroom
          simp only [hroom', Bool.true_eq_false, if_false] at hpl
          by_cases hsh : b.length < i + 1 + k + n
          · -- its plain bytes end
            rw [if_pos (by omega)] at hpl
            simp only [hpl] at hscr
            have HF : Hid (∀ w1 V, Nw wr w1 → Nw w1 V → P (.returned (.tuple #[.slice none 0 0, .int .i64 b.length, .int .i64 4])) V) := fun w1 V h1 hV => hRD V _ _ ((hNwr.trans h1).trans hV) hscr
            clear hRD HP HI hdec HIN hscr hsc hpl hbeg hdr hroom' hn
            generalize (W ++ s).length = lo at *
            generalize hf : i + 1 + k = f at *
            generalize ht : f + n = t at *
            have F1 : ¬ (m : Int) - ((lo : Int) - (W.length : Int)) < (t : Int) - (f : Int) := by omega
            have hlob : lo ≤ 5000000 := by omega
            have hwlo : W.length ≤ lo := by omega
            have F2 : (b.length : Int) < (t : Int) := by omega
            have hfl : f ≤ b.length := by omega
            clear hf ht hlo
            go_wp2_with (first | (go_at_call 79; with_reducible refine (HB.out).mono ?_; rintro e w1 ⟨rfl, hN1⟩))
            exact HF.out _ _ hN1.out ((Fr.refl _ _).alloc _)
          · -- the plain bytes are there
            rw [if_neg (by omega)] at hpl
            obtain ⟨g, o, rfl, hrd⟩ := HIN.out.2.2.2 (by intro e; rw [e] at hlt; simp at hlt)
            have hIn' := HIN.out
            obtain ⟨p, hp⟩ : ∃ p, p = ((b.drop (i + 1)).drop k).take n := ⟨_, rfl⟩
            have hpe : p = (b.drop (i + 1 + k)).take n := by rw [hp, List.drop_drop]
            have hpl' : p.length = n := by rw [hpe]; simp; omega
            rw [← hp] at hpl
            simp only [hpl] at hscr
            rw [List.drop_drop, show i + 1 + (k + n) = i + 1 + k + n by omega] at hscr
            have hs1 : (pl W m).plain s p = s ++ p := rfl
            rw [hs1] at hscr
            have hs1l : (s ++ p).length = s.length + n := by rw [List.length_append, hpl']
            have hlo2 : (W ++ s ++ p).length = (W ++ s).length + n := by rw [List.length_append, hpl']
            have hass : W ++ s ++ p = W ++ (s ++ p) := List.append_assoc _ _ _
            have HTOK : Hid (∀ V, Nw w V → V.cell? ⟨g, o + i, none⟩ = some (.int .u8 b[i].toNat)) := fun V hV => hV.cell (hrd i hlt)
            have hsl' : ∀ ad cc, (ad = o + (i + 1 + k) ∨ n = 0) → n ≤ cc → cc < 9223372036854775808 → Sl (fun _ => False) (.slice (some ⟨g, ad, none⟩) n cc) p w := fun ad cc had hcc hcc2 => .inr ⟨g, fun h => h, ad, cc, by rw [hpl'], by rw [hpl']; exact hcc, hcc2, by
              rcases had with rfl | had
              · rw [hpe]; exact (hrd.drop _).take n
              · have : p = [] := List.length_eq_zero_iff.1 (by omega)
                rw [this]; exact Rd.nil _ _ _⟩
            have HAPP0 := fun w1 (h1 : Nw wr w1) ad cc had hcc hcc2 => rdec_app w wr w1 hNwr h1 go _ (W ++ s) HI.out.base HI.out.own (.slice (some ⟨g, ad, none⟩) n cc) p (hsl' ad cc had hcc hcc2) (by rw [hlo, hpl']; omega) #[.int .i64 i, .int .i64 (i + 1 + k : Nat), .int .i64 (i + 1 + k + n : Nat), .bool true] 129
            by_cases hend : i + 1 + k + n = b.length
            · -- the last one
              rw [if_pos (by rw [hend]; simp)] at hscr
              by_cases hlow : b[i].toNat % 16 = 0
              · rw [if_pos hlow] at hscr
                have HFIN : Hid (∀ g' c' W2 ad ln cc, ln = (s ++ p).length → cc = c' - W.length → Hid (Ow g' (.slice (some ⟨g', 0, none⟩) (W ++ s ++ p).length c') (W ++ s ++ p) W2) → Hid (Nw w W2) → w.heap.size ≤ g' → (W ++ s ++ p).length ≤ c' → c' < 9223372036854775808 → (ad = W.length ∨ W.length = c') → P (.returned (.tuple #[.slice (some ⟨g', ad, none⟩) ln cc, .int .i64 0, .int .i64 0])) W2) := fun g' c' W2 ad ln cc hln hcc hO hN hg' hc' hc'' had => by
                  subst hln hcc
                  rw [HP.out, hdec, HI.out.sc, hscr]
                  have hsl := Ow.tail hO.out W.length ad (by rw [hass]; simp) hc' hc'' had
                  rw [hass, List.drop_left] at hsl
                  exact ⟨_, _, rfl, .inr ⟨g', by have := hO.out.lt; omega, hsl⟩, hN.out⟩
                have hlow' : ((b[i].toNat : Nat) : Int) % 16 = 0 := by omega
                by_cases hcf : c = i + 1 + k
                · have HAPP : Hid (∀ w1, Nw wr w1 → _) := fun w1 h1 => HAPP0 w1 h1 o 0 (.inr (by omega)) (by omega) (by omega)
                  clear hRD HP HI hdec HIN hscr hsc hbeg hdr hn hrd hIn' hsl' hnk hlen1 HAPP0 hpl hpe hp hs1 hass hlow
                  obtain rfl : n = 0 := by omega
                  have e1 : i + 1 + k = b.length := by omega
                  rw [Nat.add_zero, e1] at HB HAPP
                  obtain rfl : c = b.length := by omega
                  generalize b[i].toNat = tok at *
                  generalize (W ++ s).length = lo at *
                  generalize hl2 : (W ++ s ++ p).length = lo2 at *
                  generalize hsp : (s ++ p).length = ls2 at *
                  have F1 : ¬ (m : Int) - ((lo : Int) - (W.length : Int)) < 0 := by omega
                  have hlob : lo ≤ 5000000 := by omega
                  have hwlo : W.length ≤ lo := by omega
                  have hzz : lo2 - W.length = ls2 := by omega
                  have hz2 : W.length ≤ lo2 := by omega
                  clear hl2 hsp hlo hlo2 e1 hend hcf
                  go_wp2_with (first
                    | (go_at_call 79; with_reducible refine (HB.out).mono ?_; rintro e w1 ⟨rfl, hN1⟩; obtain ⟨g', c', W2, HAP, HO2, HN2, hg', hc', hc'', HCS⟩ := HAPP.out w1 hN1.out; have q0 := HCS.out 0 _ rfl; have q1 := HCS.out 1 _ rfl; have q2 := HCS.out 2 _ rfl; have q3 := HCS.out 3 _ rfl; have t0 := HTOK.out _ HN2.out)
                    | (at_builtin; refine Lib.wpList_append_run _ rfl _ _ 22 22 rfl (.slice (some ⟨go, 0, none⟩) lo co) (.slice (some ⟨g, o, none⟩) 0 0) (by simp [Act.eval]) (by simp [Act.eval]) _ _ (HAP.out _) ?_))
                  all_goals exact HFIN.out g' c' W2 _ _ _ (by omega) (by omega) HO2 HN2 hg' hc' hc'' (by omega)
                · have HAPP : Hid (∀ w1, Nw wr w1 → _) := fun w1 h1 => HAPP0 w1 h1 (o + (i + 1 + k)) (c - (i + 1 + k)) (.inl rfl) (by omega) (by omega)
                  clear hRD HP HI hdec HIN hscr hsc hbeg hdr hn hrd hIn' hsl' hnk hlen1 HAPP0 hpl hpe hp hs1 hass hlow
                  generalize b[i].toNat = tok at *
                  generalize hlo2' : (W ++ s ++ p).length = lo2 at *
                  generalize hsp : (s ++ p).length = ls2 at *
                  generalize (W ++ s).length = lo at *
                  rw [hend] at HB HAPP
                  generalize hf : i + 1 + k = f at *
                  obtain ⟨t, ht⟩ : ∃ t, t = b.length := ⟨_, rfl⟩
                  have F1 : ¬ (m : Int) - ((lo : Int) - (W.length : Int)) < (b.length : Int) - (f : Int) := by omega
                  have hlob : lo ≤ 5000000 := by omega
                  have hwlo : W.length ≤ lo := by omega
                  have F2 : True := trivial
                  have htf : b.length - f = n := by omega
                  have hfl : f ≤ b.length := by omega
                  have hft : (f : Int) ≤ (b.length : Int) := by omega
                  have hft' : f ≤ b.length := by omega
                  have htc : (b.length : Int) ≤ (c : Int) := by omega
                  have htL : True := trivial
                  have hl2 : lo2 ≤ 5000000 := by omega
                  have hzz : lo2 - W.length = ls2 := by omega
                  have hz2 : W.length ≤ lo2 := by omega
                  clear hf ht hlo2' hsp hlo hlo2 hend
                  go_wp2_with (first
                    | (go_at_call 79; with_reducible refine (HB.out).mono ?_; rintro e w1 ⟨rfl, hN1⟩; obtain ⟨g', c', W2, HAP, HO2, HN2, hg', hc', hc'', HCS⟩ := HAPP.out w1 hN1.out; have q0 := HCS.out 0 _ rfl; have q1 := HCS.out 1 _ rfl; have q2 := HCS.out 2 _ rfl; have q3 := HCS.out 3 _ rfl; have t0 := HTOK.out _ HN2.out)
                    | (at_builtin; refine Lib.wpList_append_run _ rfl _ _ 22 22 rfl (.slice (some ⟨go, 0, none⟩) lo co) (.slice (some ⟨g, o + f, none⟩) n (c - f)) (by simp [Act.eval]) (by simp [Act.eval]) _ _ (HAP.out _) ?_))
                  all_goals exact HFIN.out g' c' W2 _ _ _ (by omega) (by omega) HO2 HN2 hg' hc' hc'' (by omega)
              · rw [if_neg hlow, hlen1, show b.length - (b.length - (i + 1) + 1) = i by omega] at hscr
                have HFIN : Hid (∀ W2, Nw w W2 → P (.returned (.tuple #[.slice none 0 0, .int .i64 i, .int .i64 31])) W2) := fun W2 hV => hRD W2 _ _ hV hscr
                have hlow' : ¬ ((b[i].toNat : Nat) : Int) % 16 = 0 := by omega
                by_cases hcf : c = i + 1 + k
                · have HAPP : Hid (∀ w1, Nw wr w1 → _) := fun w1 h1 => HAPP0 w1 h1 o 0 (.inr (by omega)) (by omega) (by omega)
                  clear hRD HP HI hdec HIN hscr hsc hbeg hdr hn hrd hIn' hsl' hnk hlen1 HAPP0 hpl hpe hp hs1 hass hlow
                  obtain rfl : n = 0 := by omega
                  have e1 : i + 1 + k = b.length := by omega
                  rw [Nat.add_zero, e1] at HB HAPP
                  obtain rfl : c = b.length := by omega
                  generalize b[i].toNat = tok at *
                  generalize (W ++ s).length = lo at *
                  generalize hl2 : (W ++ s ++ p).length = lo2 at *
                  have F1 : ¬ (m : Int) - ((lo : Int) - (W.length : Int)) < 0 := by omega
                  have hlob : lo ≤ 5000000 := by omega
                  have hwlo : W.length ≤ lo := by omega
                  clear hl2 hlo hlo2 e1 hend hcf
                  go_wp2_with (first
                    | (go_at_call 79; with_reducible refine (HB.out).mono ?_; rintro e w1 ⟨rfl, hN1⟩; obtain ⟨g', c', W2, HAP, HO2, HN2, hg', hc', hc'', HCS⟩ := HAPP.out w1 hN1.out; have q0 := HCS.out 0 _ rfl; have q1 := HCS.out 1 _ rfl; have q2 := HCS.out 2 _ rfl; have q3 := HCS.out 3 _ rfl; have t0 := HTOK.out _ HN2.out)
                    | (at_builtin; refine Lib.wpList_append_run _ rfl _ _ 22 22 rfl (.slice (some ⟨go, 0, none⟩) lo co) (.slice (some ⟨g, o, none⟩) 0 0) (by simp [Act.eval]) (by simp [Act.eval]) _ _ (HAP.out _) ?_))
                  go_quiet (fail)
                  go_wp2_with fail
                  exact HFIN.out _ (HN2.out.drewN _)
                · have HAPP : Hid (∀ w1, Nw wr w1 → _) := fun w1 h1 => HAPP0 w1 h1 (o + (i + 1 + k)) (c - (i + 1 + k)) (.inl rfl) (by omega) (by omega)
                  clear hRD HP HI hdec HIN hscr hsc hbeg hdr hn hrd hIn' hsl' hnk hlen1 HAPP0 hpl hpe hp hs1 hass hlow
                  generalize b[i].toNat = tok at *
                  generalize hlo2' : (W ++ s ++ p).length = lo2 at *
                  generalize (W ++ s).length = lo at *
                  rw [hend] at HB HAPP
                  generalize hf : i + 1 + k = f at *
                  obtain ⟨t, ht⟩ : ∃ t, t = b.length := ⟨_, rfl⟩
                  have F1 : ¬ (m : Int) - ((lo : Int) - (W.length : Int)) < (b.length : Int) - (f : Int) := by omega
                  have hlob : lo ≤ 5000000 := by omega
                  have hwlo : W.length ≤ lo := by omega
                  have F2 : True := trivial
                  have htf : b.length - f = n := by omega
                  have hfl : f ≤ b.length := by omega
                  have hft : (f : Int) ≤ (b.length : Int) := by omega
                  have hft' : f ≤ b.length := by omega
                  have htc : (b.length : Int) ≤ (c : Int) := by omega
                  have htL : True := trivial
                  have hl2 : lo2 ≤ 5000000 := by omega
                  clear hf ht hlo2' hlo hlo2 hend
                  go_wp2_with (first
                    | (go_at_call 79; with_reducible refine (HB.out).mono ?_; rintro e w1 ⟨rfl, hN1⟩; obtain ⟨g', c', W2, HAP, HO2, HN2, hg', hc', hc'', HCS⟩ := HAPP.out w1 hN1.out; have q0 := HCS.out 0 _ rfl; have q1 := HCS.out 1 _ rfl; have q2 := HCS.out 2 _ rfl; have q3 := HCS.out 3 _ rfl; have t0 := HTOK.out _ HN2.out)
                    | (at_builtin; refine Lib.wpList_append_run _ rfl _ _ 22 22 rfl (.slice (some ⟨go, 0, none⟩) lo co) (.slice (some ⟨g, o + f, none⟩) n (c - f)) (by simp [Act.eval]) (by simp [Act.eval]) _ _ (HAP.out _) ?_))
                  go_quiet (fail)
                  go_wp2_with fail
                  exact HFIN.out _ (HN2.out.drewN _)
            · -- a match comes
              have htlt : i + 1 + k + n < b.length := by omega
              rw [if_neg (by intro h; have := congrArg List.length h; simp at this; omega)] at hscr
              have HAPP : Hid (∀ w1, Nw wr w1 → _) := fun w1 h1 => HAPP0 w1 h1 (o + (i + 1 + k)) (c - (i + 1 + k)) (.inl rfl) (by omega) (by omega)
              by_cases h2 : b.length < i + 1 + k + n + 2
              · have hms : matchS (pl W m) b.length (b[i].toNat % 16) (b.drop (i + 1 + k + n)) (s ++ p) = .bad b.length 4 := by
                  have hl2 : (b.drop (i + 1 + k + n)).length < 2 := by simp; omega
                  generalize b.drop (i + 1 + k + n) = r at hl2
                  unfold matchS
                  match r, hl2 with
                  | [], _ => rfl
                  | [x], _ => rfl
                  | x :: y :: r, h => simp at h; omega
                simp only [hms] at hscr
                have HFIN : Hid (∀ W2, Nw w W2 → P (.returned (.tuple #[.slice none 0 0, .int .i64 b.length, .int .i64 4])) W2) := fun W2 hV => hRD W2 _ _ hV hscr
                clear hRD HP HI hdec HIN hscr hsc hbeg hdr hn hrd hIn' hsl' hnk hlen1 HAPP0 hpl hpe hp hs1 hass hms
                generalize b[i].toNat = tok at *
                generalize hlo2' : (W ++ s ++ p).length = lo2 at *
                generalize (W ++ s).length = lo at *
                generalize hf : i + 1 + k = f at *
                generalize ht : f + n = t at *
                have F1 : ¬ (m : Int) - ((lo : Int) - (W.length : Int)) < (t : Int) - (f : Int) := by omega
                have hlob : lo ≤ 5000000 := by omega
                have hwlo : W.length ≤ lo := by omega
                have F2 : ¬ (b.length : Int) < (t : Int) := by omega
                have F3 : ¬ (t : Int) = (b.length : Int) := by omega
                have htf : t - f = n := by omega
                have hfl : f ≤ b.length := by omega
                have hft : (f : Int) ≤ (t : Int) := by omega
                have hft' : f ≤ t := by omega
                have htc : (t : Int) ≤ (c : Int) := by omega
                have htL : t ≤ b.length := by omega
                have hl2 : lo2 ≤ 5000000 := by omega
                have hwl2 : W.length ≤ lo2 := by omega
                have hcf : ¬ c = f := by omega
                have F4 : (b.length : Int) < (t : Int) + 2 := by omega
                clear hf ht hlo2' hlo hlo2 hend h2
                go_wp2_with (first
                  | (go_at_call 79; with_reducible refine (HB.out).mono ?_; rintro e w1 ⟨rfl, hN1⟩; obtain ⟨g', c', W2, HAP, HO2, HN2, hg', hc', hc'', HCS⟩ := HAPP.out w1 hN1.out; have q0 := HCS.out 0 _ rfl; have q1 := HCS.out 1 _ rfl; have q2 := HCS.out 2 _ rfl; have q3 := HCS.out 3 _ rfl; have t0 := HTOK.out _ HN2.out)
                  | (at_builtin; refine Lib.wpList_append_run _ rfl _ _ 22 22 rfl (.slice (some ⟨go, 0, none⟩) lo co) (.slice (some ⟨g, o + f, none⟩) n (c - f)) (by simp [Act.eval]) (by simp [Act.eval]) _ _ (HAP.out _) ?_))
                exact HFIN.out _ HN2.out
              · have hy : i + 1 + k + n + 1 < b.length := by omega
                have hms := matchS_at (pl W m) b (b[i].toNat % 16) (i + 1 + k + n) (s ++ p) hy
                have hXl := b[i + 1 + k + n].isLt
                have hYl := b[i + 1 + k + n + 1].isLt
                have HXY : Hid (∀ V, Nw w V → V.cell? ⟨g, o + (i + 1 + k + n), none⟩ = some (.int .u8 b[i + 1 + k + n].toNat) ∧ V.cell? ⟨g, o + (i + 1 + k + n + 1), none⟩ = some (.int .u8 b[i + 1 + k + n + 1].toNat)) := fun V hV => ⟨hV.cell (hrd _ htlt), hV.cell (hrd _ hy)⟩
                by_cases h0 : b[i + 1 + k + n].toNat + 256 * b[i + 1 + k + n + 1].toNat = 0
                · rw [if_pos (.inl h0)] at hms
                  simp only [hms] at hscr
                  have HFIN : Hid (∀ W2, Nw w W2 → P (.returned (.tuple #[.slice none 0 0, .int .i64 (i + 1 + k + n : Nat), .int .i64 30])) W2) := fun W2 hV => hRD W2 _ _ hV hscr
                  obtain ⟨hX0, hY0⟩ : b[i + 1 + k + n].toNat = 0 ∧ b[i + 1 + k + n + 1].toNat = 0 := by omega
                  rw [hX0, hY0] at HXY
                  clear hRD HP HI hdec HIN hscr hsc hbeg hdr hn hrd hIn' hsl' hnk hlen1 HAPP0 hpl hpe hp hs1 hass hms h0 hX0 hY0 hXl hYl
                  generalize b[i].toNat = tok at *
                  generalize hlo2' : (W ++ s ++ p).length = lo2 at *
                  generalize (W ++ s).length = lo at *
                  generalize hf : i + 1 + k = f at *
                  generalize ht : f + n = t at *
                  have F1 : ¬ (m : Int) - ((lo : Int) - (W.length : Int)) < (t : Int) - (f : Int) := by omega
                  have hlob : lo ≤ 5000000 := by omega
                  have hwlo : W.length ≤ lo := by omega
                  have F2 : ¬ (b.length : Int) < (t : Int) := by omega
                  have F3 : ¬ (t : Int) = (b.length : Int) := by omega
                  have htf : t - f = n := by omega
                  have hfl : f ≤ b.length := by omega
                  have hft : (f : Int) ≤ (t : Int) := by omega
                  have hft' : f ≤ t := by omega
                  have htc : (t : Int) ≤ (c : Int) := by omega
                  have htL : t ≤ b.length := by omega
                  have hl2 : lo2 ≤ 5000000 := by omega
                  have hwl2 : W.length ≤ lo2 := by omega
                  have hcf : ¬ c = f := by omega
                  have F4 : ¬ (b.length : Int) < (t : Int) + 2 := by omega
                  have F5 : (t : Int) + 1 < (b.length : Int) := by omega
                  clear hf ht hlo2' hlo hlo2 hend h2
                  go_wp2_with (first
                    | (go_at_call 79; with_reducible refine (HB.out).mono ?_; rintro e w1 ⟨rfl, hN1⟩; obtain ⟨g', c', W2, HAP, HO2, HN2, hg', hc', hc'', HCS⟩ := HAPP.out w1 hN1.out; have q0 := HCS.out 0 _ rfl; have q1 := HCS.out 1 _ rfl; have q2 := HCS.out 2 _ rfl; have q3 := HCS.out 3 _ rfl; have t0 := HTOK.out _ HN2.out; have x0 := (HXY.out _ HN2.out).1; have y0 := (HXY.out _ HN2.out).2)
                    | (at_builtin; refine Lib.wpList_append_run _ rfl _ _ 22 22 rfl (.slice (some ⟨go, 0, none⟩) lo co) (.slice (some ⟨g, o + f, none⟩) n (c - f)) (by simp [Act.eval]) (by simp [Act.eval]) _ _ (HAP.out _) ?_))
                  go_quiet (fail)
                  go_wp2_with fail
                  go_quiet (fail)
                  go_wp2_with fail
                  exact HFIN.out _ ((HN2.out.drewN _).drewN _)
                · by_cases hre : b[i + 1 + k + n].toNat + 256 * b[i + 1 + k + n + 1].toNat ≤ (W ++ s ++ p).length
                  · have hre' : (pl W m).reaches (s ++ p) (b[i + 1 + k + n].toNat + 256 * b[i + 1 + k + n + 1].toNat) = true := by
                      rw [hass, List.length_append] at hre
                      simpa [pl] using hre
                    rw [if_neg (fun h => by rcases h with h | h; exact h0 h; rw [hre'] at h; cases h)] at hms
                    have hmt := mtc_at b (b[i].toNat % 16) (i + 1 + k + n) hy h0
                    have HMT0 := fun V (hV : Nw w V) => rmatch_any (some ⟨g, o, none⟩) c b V (hIn'.nw hV) i (i + 1 + k + n) hlt (by omega)
                    cases hn2 : num (b[i].toNat % 16) (b.drop (i + 1 + k + n + 2)) with
                    | none =>
                      simp only [hn2] at hms hmt
                      simp only [hms] at hscr
                      have HFIN : Hid (∀ W2, Nw w W2 → P (.returned (.tuple #[.slice none 0 0, .int .i64 b.length, .int .i64 4])) W2) := fun W2 hV => hRD W2 _ _ hV hscr
                      have HMT : Hid (∀ V, Nw w V → Calls Try.prog 80 #[.slice (some ⟨g, o, none⟩) b.length c, .int .i64 i, .int .i64 (i + 1 + k + n : Nat)] V fun e w3 => e = .returned (.tuple #[.int .i64 0, .int .i64 0, .int .i64 b.length, .int .i64 4]) ∧ Hid (Nw w w3)) := fun V hV => by
                        refine (HMT0 V hV).mono ?_
                        rw [hmt]
                        rintro e w3 ⟨rfl, hN3⟩
                        exact ⟨rfl, hV.trans hN3⟩
                      obtain ⟨B, hB⟩ : ∃ B, B = b[i + 1 + k + n].toNat + 256 * b[i + 1 + k + n + 1].toNat := ⟨_, rfl⟩
                      rw [← hB] at h0 hre
                      have hBe : ((b[i + 1 + k + n].toNat : Nat) : Int) + 256 * ((b[i + 1 + k + n + 1].toNat : Nat) : Int) = (B : Int) := by omega
                      clear hB
                      clear hRD HP HI hdec HIN hscr hsc hbeg hdr hn hrd hIn' hsl' hnk hlen1 HAPP0 hpl hpe hp hs1 hass hms hre' HMT0 hmt hn2
                      generalize b[i + 1 + k + n].toNat = X at *
                      generalize b[i + 1 + k + n + 1].toNat = Y at *
                      generalize b[i].toNat = tok at *
                      generalize hlo2' : (W ++ s ++ p).length = lo2 at *
                      generalize (W ++ s).length = lo at *
                      generalize hf : i + 1 + k = f at *
                      generalize ht : f + n = t at *
                      have F1 : ¬ (m : Int) - ((lo : Int) - (W.length : Int)) < (t : Int) - (f : Int) := by omega
                      have hlob : lo ≤ 5000000 := by omega
                      have hwlo : W.length ≤ lo := by omega
                      have F2 : ¬ (b.length : Int) < (t : Int) := by omega
                      have F3 : ¬ (t : Int) = (b.length : Int) := by omega
                      have htf : t - f = n := by omega
                      have hfl : f ≤ b.length := by omega
                      have hft : (f : Int) ≤ (t : Int) := by omega
                      have hft' : f ≤ t := by omega
                      have htc : (t : Int) ≤ (c : Int) := by omega
                      have htL : t ≤ b.length := by omega
                      have hl2 : lo2 ≤ 5000000 := by omega
                      have hwl2 : W.length ≤ lo2 := by omega
                      have hcf : ¬ c = f := by omega
                      have F4 : ¬ (b.length : Int) < (t : Int) + 2 := by omega
                      have F5 : (t : Int) + 1 < (b.length : Int) := by omega
                      have F6 : ¬ (B : Int) = 0 := by omega
                      have F7 : ¬ (lo2 : Int) < (B : Int) := by omega
                      have F7b : ¬ lo2 < B := by omega
                      have F6b : ((B : Int) == 0) = false := by simpa using F6
                      clear hf ht hlo2' hlo hlo2 hend h2 hre h0
                      go_wp2_with (first
                        | (go_at_call 79; with_reducible refine (HB.out).mono ?_; rintro e w1 ⟨rfl, hN1⟩; obtain ⟨g', c', W2, HAP, HO2, HN2, hg', hc', hc'', HCS⟩ := HAPP.out w1 hN1.out; have q0 := HCS.out 0 _ rfl; have q1 := HCS.out 1 _ rfl; have q2 := HCS.out 2 _ rfl; have q3 := HCS.out 3 _ rfl; have t0 := HTOK.out _ HN2.out; have x0 := (HXY.out _ HN2.out).1; have y0 := (HXY.out _ HN2.out).2)
                        | (at_builtin; refine Lib.wpList_append_run _ rfl _ _ 22 22 rfl (.slice (some ⟨go, 0, none⟩) lo co) (.slice (some ⟨g, o + f, none⟩) n (c - f)) (by simp [Act.eval]) (by simp [Act.eval]) _ _ (HAP.out _) ?_))
                      go_quiet (fail)
                      go_wp2_with (first
                        | (go_at_call 80; with_reducible refine (HMT.out _ (HN2.out.drewN _)).mono ?_; rintro e w3 ⟨rfl, hN3⟩))
                      exact HFIN.out _ hN3.out
                    | some p2 =>
                      obtain ⟨n2, k2⟩ := p2
                      have hnk2 := num_le hn2 (by omega)
                      have hlen2 : (b.drop (i + 1 + k + n + 2)).length = b.length - (i + 1 + k + n + 2) := by simp
                      rw [hlen2] at hnk2
                      simp only [hn2] at hms hmt
                      have HMT : Hid (∀ V, Nw w V → Calls Try.prog 80 #[.slice (some ⟨g, o, none⟩) b.length c, .int .i64 i, .int .i64 (i + 1 + k + n : Nat)] V fun e w3 => e = .returned (.tuple #[.int .i64 ((b[i + 1 + k + n].toNat + 256 * b[i + 1 + k + n + 1].toNat : Nat) : Int), .int .i64 ((n2 : Int) + 4), .int .i64 (i + 1 + k + n + 2 + k2 : Nat), .int .i64 0]) ∧ Hid (Nw V w3)) := fun V hV => by
                        refine (HMT0 V hV).mono ?_
                        rw [hmt]
                        rintro e w3 ⟨rfl, hN3⟩
                        exact ⟨rfl, hN3⟩
                      by_cases hroom2 : n2 + 4 + (s ++ p).length ≤ m
                      · have hroom2' : (pl W m).room (s ++ p) (n2 + 4) = true := by simpa [pl] using hroom2
                        simp only [hroom2', Bool.true_eq_false, if_false] at hms
                        simp only [hms] at hscr
                        rw [List.drop_drop] at hscr
                        obtain ⟨B, hB⟩ : ∃ B, B = b[i + 1 + k + n].toNat + 256 * b[i + 1 + k + n + 1].toNat := ⟨_, rfl⟩
                        have HCP : Hid (∀ g' c' W2, Hid (Ow g' (.slice (some ⟨g', 0, none⟩) (W ++ s ++ p).length c') (W ++ s ++ p) W2) → Hid (Nw w W2) → w.heap.size ≤ g' → ∀ V, Nw W2 V → ∀ z1 z2 : Int, z1 = (B : Nat) → z2 = (n2 + 4 : Nat) → Calls Try.prog 81 #[.slice (some ⟨g', 0, none⟩) (W ++ s ++ p).length c', .int .i64 z1, .int .i64 z2] V fun e w4 => ∃ g4 c4, e = .returned (.slice (some ⟨g4, 0, none⟩) (W ++ (pl W m).mat (s ++ p) B (n2 + 4)).length c4) ∧ Hid (RI w b W m (i + 1 + k + n + 2 + k2) ((pl W m).mat (s ++ p) B (n2 + 4)) g4 c4 w4)) := fun g' c' W2 hO hN hg' V hV z1 z2 hz1 hz2 => by
                          subst hz1 hz2
                          have hsz := (hN.out.trans hV).size
                          refine (rcopied_any (fun k => k < w.heap.size) (W ++ s ++ p) B (n2 + 4) (by omega) (by omega) V (fun k hk => by omega) _ (.inr ⟨g', by omega, hO.out.nw hV⟩) (by rw [hass, List.length_append]; omega)).mono ?_
                          rintro e w4 ⟨v4, rfl, hM4, hF4⟩
                          have em := pl_mat W m (s ++ p) B (n2 + 4) (by omega) (by rw [← List.length_append, ← hass]; omega)
                          have eml := pl_mat_length W m (s ++ p) B (n2 + 4)
                          rw [hass, ← em] at hM4
                          rcases hM4 with ⟨_, h4⟩ | ⟨g4, hg4, hO4⟩
                          · have := congrArg List.length h4
                            rw [List.length_append, eml, List.length_nil] at this
                            omega
                          · have hO4' := hO4
                            obtain ⟨xs, rfl, _⟩ := hO4'
                            refine ⟨g4, xs.length, rfl, hO4, by omega, ?_, by omega, by rw [eml]; omega, ?_⟩
                            · exact Fr.then (hN.out.trans hV) hF4 (fun k hk => .inr (by omega))
                            · rw [HI.out.sc, hscr, ← hB]
                        rw [← hB] at HMT h0 hre
                        have hBe : ((b[i + 1 + k + n].toNat : Nat) : Int) + 256 * ((b[i + 1 + k + n + 1].toNat : Nat) : Int) = (B : Int) := by omega
                        clear hRD HP HI hdec HIN hscr hsc hbeg hdr hn hrd hIn' hsl' hnk hlen1 HAPP0 hpl hpe hp hs1 hass hms hre' HMT0 hmt hn2 hB hroom2' hlen2
                        generalize b[i + 1 + k + n].toNat = X at *
                        generalize b[i + 1 + k + n + 1].toNat = Y at *
                        generalize b[i].toNat = tok at *
                        generalize hlo2' : (W ++ s ++ p).length = lo2 at *
                        generalize (W ++ s).length = lo at *
                        generalize hf : i + 1 + k = f at *
                        generalize ht : f + n = t at *
                        have F1 : ¬ (m : Int) - ((lo : Int) - (W.length : Int)) < (t : Int) - (f : Int) := by omega
                        have hlob : lo ≤ 5000000 := by omega
                        have hwlo : W.length ≤ lo := by omega
                        have F2 : ¬ (b.length : Int) < (t : Int) := by omega
                        have F3 : ¬ (t : Int) = (b.length : Int) := by omega
                        have htf : t - f = n := by omega
                        have hfl : f ≤ b.length := by omega
                        have hft : (f : Int) ≤ (t : Int) := by omega
                        have hft' : f ≤ t := by omega
                        have htc : (t : Int) ≤ (c : Int) := by omega
                        have htL : t ≤ b.length := by omega
                        have hl2 : lo2 ≤ 5000000 := by omega
                        have hwl2 : W.length ≤ lo2 := by omega
                        have hcf : ¬ c = f := by omega
                        have F4 : ¬ (b.length : Int) < (t : Int) + 2 := by omega
                        have F5 : (t : Int) + 1 < (b.length : Int) := by omega
                        have F6 : ¬ (B : Int) = 0 := by omega
                        have F7 : ¬ (lo2 : Int) < (B : Int) := by omega
                        have F7b : ¬ lo2 < B := by omega
                        have F6b : ((B : Int) == 0) = false := by simpa using F6
                        have F8 : ¬ (m : Int) - ((lo2 : Int) - (W.length : Int)) < (n2 : Int) + 4 := by omega
                        generalize hi4 : t + 2 + k2 = i4 at *
                        have hi4' : i < i4 ∧ i4 ≤ b.length := by omega
                        generalize hlo4 : (W ++ (pl W m).mat (s ++ p) B (n2 + 4)).length = lo4 at *
                        have hlo4' : Hid ((W ++ (pl W m).mat (s ++ p) B (n2 + 4)).length = lo4) := hlo4
                        clear hlo4
                        have hBl : B ≤ 5000000 := by omega
                        clear hf ht hlo2' hlo hlo2 hend h2 hre h0 hi4
                        go_wp2_with (first
                          | (go_at_call 79; with_reducible refine (HB.out).mono ?_; rintro e w1 ⟨rfl, hN1⟩; obtain ⟨g', c', W2, HAP, HO2, HN2, hg', hc', hc'', HCS⟩ := HAPP.out w1 hN1.out; have q0 := HCS.out 0 _ rfl; have q1 := HCS.out 1 _ rfl; have q2 := HCS.out 2 _ rfl; have q3 := HCS.out 3 _ rfl; have t0 := HTOK.out _ HN2.out; have x0 := (HXY.out _ HN2.out).1; have y0 := (HXY.out _ HN2.out).2)
                          | (at_builtin; refine Lib.wpList_append_run _ rfl _ _ 22 22 rfl (.slice (some ⟨go, 0, none⟩) lo co) (.slice (some ⟨g, o + f, none⟩) n (c - f)) (by simp [Act.eval]) (by simp [Act.eval]) _ _ (HAP.out _) ?_))
                        go_quiet (fail)
                        go_wp2_with (first
                          | (go_at_call 80; with_reducible refine (HMT.out _ (HN2.out.drewN _)).mono ?_; rintro e w3 ⟨rfl, hN3⟩)
                          | (go_at_call 81; with_reducible refine (HCP.out g' c' W2 HO2 HN2 hg' _ (((Fr.refl _ _).drewN _).trans hN3.out) _ _ rfl (by omega)).mono ?_; rintro e w4 ⟨g4, c4, rfl, HR4⟩))
                        go_roundg (b.length - i)
                        case measure => omega
                        case rel => exact ⟨i4, _, g4, c4, by omega, by rw [hlo4'.out], rfl, HR4⟩
                      · have hroom2' : (pl W m).room (s ++ p) (n2 + 4) = false := by
                          show decide _ = false
                          simpa using hroom2
                        simp only [hroom2', if_true] at hms
                        simp only [hms] at hscr
                        have HFIN : Hid (∀ W2, Nw w W2 → P (.returned (.tuple #[.slice none 0 0, .int .i64 (i + 1 + k + n : Nat), .int .i64 32])) W2) := fun W2 hV => hRD W2 _ _ hV hscr
                        obtain ⟨B, hB⟩ : ∃ B, B = b[i + 1 + k + n].toNat + 256 * b[i + 1 + k + n + 1].toNat := ⟨_, rfl⟩
                        rw [← hB] at HMT h0 hre
                        have hBe : ((b[i + 1 + k + n].toNat : Nat) : Int) + 256 * ((b[i + 1 + k + n + 1].toNat : Nat) : Int) = (B : Int) := by omega
                        clear hRD HP HI hdec HIN hscr hsc hbeg hdr hn hrd hIn' hsl' hnk hlen1 HAPP0 hpl hpe hp hs1 hass hms hre' HMT0 hmt hn2 hB hroom2' hlen2
                        generalize b[i + 1 + k + n].toNat = X at *
                        generalize b[i + 1 + k + n + 1].toNat = Y at *
                        generalize b[i].toNat = tok at *
                        generalize hlo2' : (W ++ s ++ p).length = lo2 at *
                        generalize (W ++ s).length = lo at *
                        generalize hf : i + 1 + k = f at *
                        generalize ht : f + n = t at *
                        have F1 : ¬ (m : Int) - ((lo : Int) - (W.length : Int)) < (t : Int) - (f : Int) := by omega
                        have hlob : lo ≤ 5000000 := by omega
                        have hwlo : W.length ≤ lo := by omega
                        have F2 : ¬ (b.length : Int) < (t : Int) := by omega
                        have F3 : ¬ (t : Int) = (b.length : Int) := by omega
                        have htf : t - f = n := by omega
                        have hfl : f ≤ b.length := by omega
                        have hft : (f : Int) ≤ (t : Int) := by omega
                        have hft' : f ≤ t := by omega
                        have htc : (t : Int) ≤ (c : Int) := by omega
                        have htL : t ≤ b.length := by omega
                        have hl2 : lo2 ≤ 5000000 := by omega
                        have hwl2 : W.length ≤ lo2 := by omega
                        have hcf : ¬ c = f := by omega
                        have F4 : ¬ (b.length : Int) < (t : Int) + 2 := by omega
                        have F5 : (t : Int) + 1 < (b.length : Int) := by omega
                        have F6 : ¬ (B : Int) = 0 := by omega
                        have F7 : ¬ (lo2 : Int) < (B : Int) := by omega
                        have F7b : ¬ lo2 < B := by omega
                        have F6b : ((B : Int) == 0) = false := by simpa using F6
                        have F8 : (m : Int) - ((lo2 : Int) - (W.length : Int)) < (n2 : Int) + 4 := by omega
                        generalize hi4 : t + 2 + k2 = i4 at *
                        have hBl : B ≤ 5000000 := by omega
                        clear hf ht hlo2' hlo hlo2 hend h2 hre h0 hi4
                        go_wp2_with (first
                          | (go_at_call 79; with_reducible refine (HB.out).mono ?_; rintro e w1 ⟨rfl, hN1⟩; obtain ⟨g', c', W2, HAP, HO2, HN2, hg', hc', hc'', HCS⟩ := HAPP.out w1 hN1.out; have q0 := HCS.out 0 _ rfl; have q1 := HCS.out 1 _ rfl; have q2 := HCS.out 2 _ rfl; have q3 := HCS.out 3 _ rfl; have t0 := HTOK.out _ HN2.out; have x0 := (HXY.out _ HN2.out).1; have y0 := (HXY.out _ HN2.out).2)
                          | (at_builtin; refine Lib.wpList_append_run _ rfl _ _ 22 22 rfl (.slice (some ⟨go, 0, none⟩) lo co) (.slice (some ⟨g, o + f, none⟩) n (c - f)) (by simp [Act.eval]) (by simp [Act.eval]) _ _ (HAP.out _) ?_))
                        go_quiet (fail)
                        go_wp2_with (first
                          | (go_at_call 80; with_reducible refine (HMT.out _ (HN2.out.drewN _)).mono ?_; rintro e w3 ⟨rfl, hN3⟩; have r2 := Nw.cell (Nw.trans ((Fr.refl (fun _ => False) W2).drewN nq) hN3.out) q2))
                        go_quiet (fail)
                        go_wp2_with fail
                        exact HFIN.out _ (((HN2.out.drewN _).trans hN3.out).drewN _)
                  · have hre' : (pl W m).reaches (s ++ p) (b[i + 1 + k + n].toNat + 256 * b[i + 1 + k + n + 1].toNat) = false := by
                      rw [hass, List.length_append] at hre
                      show decide _ = false
                      simpa using hre
                    rw [if_pos (.inr hre')] at hms
                    simp only [hms] at hscr
                    have HFIN : Hid (∀ W2, Nw w W2 → P (.returned (.tuple #[.slice none 0 0, .int .i64 (i + 1 + k + n : Nat), .int .i64 30])) W2) := fun W2 hV => hRD W2 _ _ hV hscr
                    clear hRD HP HI hdec HIN hscr hsc hbeg hdr hn hrd hIn' hsl' hnk hlen1 HAPP0 hpl hpe hp hs1 hass hms hre'
                    generalize b[i + 1 + k + n].toNat = X at *
                    generalize b[i + 1 + k + n + 1].toNat = Y at *
                    generalize b[i].toNat = tok at *
                    generalize hlo2' : (W ++ s ++ p).length = lo2 at *
                    generalize (W ++ s).length = lo at *
                    generalize hf : i + 1 + k = f at *
                    generalize ht : f + n = t at *
                    have F1 : ¬ (m : Int) - ((lo : Int) - (W.length : Int)) < (t : Int) - (f : Int) := by omega
                    have hlob : lo ≤ 5000000 := by omega
                    have hwlo : W.length ≤ lo := by omega
                    have F2 : ¬ (b.length : Int) < (t : Int) := by omega
                    have F3 : ¬ (t : Int) = (b.length : Int) := by omega
                    have htf : t - f = n := by omega
                    have hfl : f ≤ b.length := by omega
                    have hft : (f : Int) ≤ (t : Int) := by omega
                    have hft' : f ≤ t := by omega
                    have htc : (t : Int) ≤ (c : Int) := by omega
                    have htL : t ≤ b.length := by omega
                    have hl2 : lo2 ≤ 5000000 := by omega
                    have hwl2 : W.length ≤ lo2 := by omega
                    have hcf : ¬ c = f := by omega
                    have F4 : ¬ (b.length : Int) < (t : Int) + 2 := by omega
                    have F5 : (t : Int) + 1 < (b.length : Int) := by omega
                    have F6 : ¬ (X : Int) + 256 * (Y : Int) = 0 := by omega
                    have F7 : (lo2 : Int) < (X : Int) + 256 * (Y : Int) := by omega
                    clear hf ht hlo2' hlo hlo2 hend h2 hre h0
                    go_wp2_with (first
                      | (go_at_call 79; with_reducible refine (HB.out).mono ?_; rintro e w1 ⟨rfl, hN1⟩; obtain ⟨g', c', W2, HAP, HO2, HN2, hg', hc', hc'', HCS⟩ := HAPP.out w1 hN1.out; have q0 := HCS.out 0 _ rfl; have q1 := HCS.out 1 _ rfl; have q2 := HCS.out 2 _ rfl; have q3 := HCS.out 3 _ rfl; have t0 := HTOK.out _ HN2.out; have x0 := (HXY.out _ HN2.out).1; have y0 := (HXY.out _ HN2.out).2)
                      | (at_builtin; refine Lib.wpList_append_run _ rfl _ _ 22 22 rfl (.slice (some ⟨go, 0, none⟩) lo co) (.slice (some ⟨g, o + f, none⟩) n (c - f)) (by simp [Act.eval]) (by simp [Act.eval]) _ _ (HAP.out _) ?_))
                    go_quiet (fail)
                    go_wp2_with fail
                    go_quiet (fail)
                    go_wp2_with fail
                    exact HFIN.out _ ((HN2.out.drewN _).drewN _)
        · -- no room
          have hroom' : (pl W m).room s n = false := by simpa [pl] using hroom
          simp only [hroom', if_true] at hpl
          simp only [hpl] at hscr
          rw [hlen1, show b.length - (b.length - (i + 1) - k) = i + 1 + k by omega] at hscr
          have HF : Hid (∀ w1 V, Nw wr w1 → Nw w1 V → P (.returned (.tuple #[.slice none 0 0, .int .i64 (i + 1 + k : Nat), .int .i64 32])) V) := fun w1 V h1 hV => hRD V _ _ ((hNwr.trans h1).trans hV) hscr
          clear hRD HP HI hdec HIN hscr hsc hpl hbeg hdr hroom' hn
          generalize (W ++ s).length = lo at *
          generalize hf : i + 1 + k = f at *
          generalize ht : f + n = t at *
          have F1 : (m : Int) - ((lo : Int) - (W.length : Int)) < (t : Int) - (f : Int) := by omega
          have hlob : lo ≤ 5000000 := by omega
          have hwlo : W.length ≤ lo := by omega
          have hfl : f ≤ b.length := by omega
          have htl : t ≤ 200000000000000000 := by omega
          clear hf ht hlo
          go_wp2_with (first | (go_at_call 79; with_reducible refine (HB.out).mono ?_; rintro e w1 ⟨rfl, hN1⟩))
          go_quiet (fail)
          go_wp2_with fail
          exact HF.out _ _ hN1.out (((Fr.refl _ _).alloc _).drewN _)
end Go.Proofs.Ytdeefemeiggolaa
