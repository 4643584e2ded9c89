import Derived.Test.YtpnacppmdlnjlabLzL
namespace Go.Proofs.Ytpnacppmdlnjlab
open Go.RowKit
set_option linter.unusedVariables false
/-- What match takes out of ahead. -/
theorem ahead_step {D pb : Nat} {ga oa ac : Nat} {ahead : List By} {most : Nat} {s : List By} {K : Nat → Prop} {w : World} (back n : Nat) (h : PI D pb (.slice (some ⟨ga, oa, none⟩) ahead.length ac) ahead most s K w) (hr : Rd ga oa ahead w) (hac : ahead.length ≤ ac) (hac2 : ac < 9223372036854775808) (hD : ∀ k, k < D → K k) (hK : ∀ k, K k → k < w.heap.size) (hb2 : s.length < back) (hb3 : back ≤ ahead.length + s.length) (hn : s.length + n ≤ most) (V : World) (hV : Nw w V) (x : Nat) (hx : x = ahead.length - (back - s.length)) (q : Nat) (hq : q = min n (back - s.length)) :
    ∃ a c v' W u, w.cell? ⟨pb, 1, none⟩ = some (.slice a s.length c) ∧ W.cell? ⟨pb, 1, none⟩ = some u ∧ W.frozen? ⟨pb, 1, none⟩ = false ∧
      Hid (∀ ty, (Builtin.append_ #[22, 22] ty #[.slice a s.length c, .slice (some ⟨ga, oa + x, none⟩) q (ac - x)]).run Try.prog V = .ok v' W) ∧ (∃ a c, v' = .slice a (s.length + q) c) ∧
      Hid (MI D pb (.slice (some ⟨ga, oa, none⟩) ahead.length ac) ahead most s back n 0 K w (s ++ (ahead.drop x).take q) (n - q) (W.setCell ⟨pb, 1, none⟩ v')) := by
  obtain ⟨vo, h1, h2⟩ := h.out
  have hlm := h.lm
  have hpl : ((ahead.drop x).take q).length = q := by simp; omega
  have hsl : Sl (fun _ => False) (.slice (some ⟨ga, oa + x, none⟩) q (ac - x)) ((ahead.drop x).take q) V :=
    .inr ⟨ga, fun h => h, oa + x, ac - x, by rw [hpl], by rw [hpl]; omega, by omega, ((hr.drop x).take q).nw hV⟩
  have hlt := h.lt
  have hsz := hV.size
  obtain ⟨v', W, hap, hM, hF⟩ := mine_app (fun k => K k ∨ k = pb) V (fun k hk => by rcases hk with hk | hk; have := hK k hk; omega; omega) vo s (h2.nw hV) _ _ hsl (by rw [hpl]; omega)
  obtain ⟨k1, k2, ⟨u1, k3⟩, k4⟩ := (h.grow hV (fun k hk => .inl hk)).put hD hF hM (by rw [List.length_append, hpl]; omega)
  obtain ⟨a, c, rfl, hc, hc2⟩ := h2.sl.form
  obtain ⟨a', c', e', _, _⟩ := hM.sl.form
  refine ⟨a, c, v', W, u1, h1, k3, k4, hap, ⟨a', c', by rw [e', List.length_append, hpl]⟩, ?_⟩
  refine ⟨k1, hV.any.trans k2, ?_, ?_, ?_, ?_⟩
  · rw [hx]; exact first_part ahead s back q hb2 hb3 (by omega)
  · rw [List.length_append, hpl]; omega
  · intro hl
    exact ⟨1, Nat.le_refl _, by rw [List.length_append, hpl]; omega⟩
  · intro _; omega
set_option maxHeartbeats 8000000 in
set_option maxRecDepth 100000 in
/-- match, where something of ahead is wanted. -/
theorem pmatch_out {D pb : Nat} {ga oa ac : Nat} {ahead : List By} {most : Nat} {s : List By} {K : Nat → Prop} {w : World} (back n : Nat) (h : PI D pb (.slice (some ⟨ga, oa, none⟩) ahead.length ac) ahead most s K w) (hr : Rd ga oa ahead w) (hac : ahead.length ≤ ac) (hac2 : ac < 9223372036854775808) (hD : ∀ k, k < D → K k) (hK : ∀ k, K k → k < w.heap.size) (hb2 : s.length < back) (hbk : back < 65536) (hb3 : back ≤ ahead.length + s.length) (hn : s.length + n ≤ most) :
    Calls Try.prog 43 #[.pointer (some ⟨pb, 0, none⟩), .int .i64 back, .int .i64 n] w fun e w' => (∃ r, e = .returned r) ∧ PI D pb (.slice (some ⟨ga, oa, none⟩) ahead.length ac) ahead most ((pl ahead most).mat s back n) K w' ∧ Fr (fun k => ¬ K k) w w' := by
  obtain ⟨va, hva⟩ : ∃ va : Value, va = .slice (some ⟨ga, oa, none⟩) ahead.length ac := ⟨_, rfl⟩
  obtain ⟨P, hP⟩ : ∃ P : Ending → World → Prop, P = fun e w' => (∃ r, e = .returned r) ∧ PI D pb (.slice (some ⟨ga, oa, none⟩) ahead.length ac) ahead most ((pl ahead most).mat s back n) K w' ∧ Fr (fun k => ¬ K k) w w' := ⟨_, rfl⟩
  rw [← hP]
  have HP : Hid (P = fun e w' => (∃ r, e = .returned r) ∧ PI D pb (.slice (some ⟨ga, oa, none⟩) ahead.length ac) ahead most ((pl ahead most).mat s back n) K w' ∧ Fr (fun k => ¬ K k) w w') := hP
  clear hP
  obtain ⟨vo, h1, h2⟩ := h.out
  obtain ⟨a0, c0, rfl, hc0, hc02⟩ := h2.sl.form
  have hlm := h.lm
  have hla := h.la
  have hca := h.ca
  have HST : Hid (∀ V, Nw w V → ∀ x, x = ahead.length - (back - s.length) → ∀ q, q = min n (back - s.length) → _) := fun V hV x hx q hq => ahead_step back n h hr hac hac2 hD hK hb2 hb3 hn V hV x hx q hq
  have HRD : Hid (∀ out len wr, 0 < len → MI D pb (.slice (some ⟨ga, oa, none⟩) ahead.length ac) ahead most s back n 0 K w out len wr → _) := fun out len wr hl hm => hm.round (by omega) (by simp; omega) hD hK hn hl
  have HDN : Hid (∀ out wr, MI D pb (.slice (some ⟨ga, oa, none⟩) ahead.length ac) ahead most s back n 0 K w out 0 wr → (PI D pb (.slice (some ⟨ga, oa, none⟩) ahead.length ac) ahead most ((pl ahead most).mat s back n) K wr ∧ Fr (fun k => ¬ K k) w wr)) := fun out wr hm => ⟨hm.done (by omega) (by simp; omega), hm.ff⟩
  have HL : Hid (∀ out len wr, MI D pb (.slice (some ⟨ga, oa, none⟩) ahead.length ac) ahead most s back n 0 K w out len wr → out.length + len = s.length + n) := fun out len wr hm => hm.sum
  clear h h2 hr hD hK
  generalize hls : s.length = ls at *
  generalize hal : ahead.length = al at *
  have hz1 : (back : Int) - (ls : Int) = ((back - ls : Nat) : Int) := by omega
  obtain ⟨x, hx⟩ : ∃ x, x = al - (back - ls) := ⟨_, rfl⟩
  obtain ⟨q, hq⟩ : ∃ q, q = min n (back - ls) := ⟨_, rfl⟩
  have hz2 : (al : Int) - ((back - ls : Nat) : Int) = (x : Int) := by omega
  have hz3 : (0 : Int) < ((back - ls : Nat) : Int) := by omega
  have hz4 : min (n : Int) ((back - ls : Nat) : Int) = (q : Int) := by omega
  have hz5 : (x : Int) ≤ (al : Int) := by omega
  have hz6 : al - x = back - ls := by omega
  have hz7 : ¬ ac = x := by omega
  have hz8 : q ≤ back - ls := by omega
  have hz9 : (q : Int) ≤ ((ac - x : Nat) : Int) := by omega
  have hz10 : (n : Int) - (q : Int) = ((n - q : Nat) : Int) := by omega
  have hz11 : max (((ls + q : Nat) : Int) - (back : Int)) 0 = 0 := by omega
  have hz12 : max ((ls : Int) + (q : Int) - (back : Int)) 0 = 0 := by omega
  have hx' : Hid (x = al - (back - ls)) := hx
  have hq' : Hid (q = min n (back - ls)) := hq
  have hls' : Hid (s.length = ls) := hls
  have hal' : Hid (ahead.length = al) := hal
  have hb2' : Hid (ls < back) := hb2
  have hzx : x ≤ al := by omega
  generalize hbl : back - ls = bl at *
  clear hx hq hls hal hbl
  go_enter Try.func43, Try.ntmps43
  go_wp2_with fail
  go_quiet (fail)
  go_wp2_with fail
  obtain ⟨a1, c1, v', W, u, q1, q5, q6, HAP, ⟨a', c', hv'⟩, HI0⟩ := HST.out ((w.drewN nq).drew) ((Fr.refl _ _).drewN _).drew x hx'.out q hq'.out
  rw [h1] at q1
  injection q1 with q1
  injection q1 with q1 _ q1'
  subst q1 q1' hv'
  clear HST
  go_region_law (first
    | (refine step_append_run rfl _ _ rfl (.slice a0 ls c0) (.slice (some ⟨ga, oa + x, none⟩) q (ac - x)) (by first | rfl | simp [Act.eval, Act.put]) (by first | rfl | simp [Act.eval, Act.put]) _ _ (HAP.out) ?_))
  all_goals go_wp2_with fail
  clear hz1 hz2 hz3 hz4 hz5 hz6 hz7 hz8 hz9 hz10 hz11 hz12 HAP q5 q6 h1 hca hzx
  generalize hV0 : W.setCell ⟨pb, 1, none⟩ (.slice a' (ls + q) c') = V0 at *
  generalize (n - q : Nat) = l0 at *
  generalize s ++ (ahead.drop x).take q = o0 at *
  clear hV0
  go_loopg [2] (l0 + 1) (fun kx l wr => ∃ (out : List By) (len : Nat), len < kx ∧ l = .int .i64 len ∧ Hid (MI D pb (.slice (some ⟨ga, oa, none⟩) al ac) ahead most s back n 0 K w out len wr))
  case atStart => exact ⟨o0, l0, by omega, rfl, HI0⟩
  case round =>
    obtain ⟨out, len, hkx, rfl, HI⟩ := hrel
    clear HI0
    by_cases hl : 0 < len
    · obtain ⟨g, c, v', W, u, q1, q2, q3, q4, q5, q6, HAP, ⟨a', l', c', hv'⟩, HM⟩ := HRD.out out len wr.drew hl (HI.out.nw (Fr.refl _ _).drew)
      have q1' : wr.cell? ⟨pb, 1, none⟩ = some (.slice (some ⟨g, 0, none⟩) out.length c) := q1
      clear q1
      have hsum := HL.out out len wr HI.out
      subst hv'
      clear HRD HDN HL HI
      generalize hol : out.length = ol at *
      rw [Nat.sub_zero, Nat.sub_zero] at HAP
      rw [Nat.sub_zero] at HM
      generalize hqq : min len ol = qq at *
      have hz5 : min (len : Int) (ol : Int) = (qq : Int) := by omega
      have hz8 : (len : Int) - (qq : Int) = ((len - qq : Nat) : Int) := by omega
      have hz6 : (qq : Int) ≤ (c : Int) := by omega
      have hz6' : IntKind.i64.wrap (qq : Int) = (qq : Int) := by rw [IntKind.wrap_i64]; omega
      have hz7 : ¬ c = 0 := by omega
      have hq1 : 1 ≤ qq := by omega
      have hqle : qq ≤ len := by omega
      have hol' : Hid (out.length = ol) := hol
      have hqq' : Hid (min len ol = qq) := hqq
      clear hol hqq
      go_wp2_with fail
      go_region_law (first
        | (refine step_append_run rfl _ _ rfl (.slice (some ⟨g, 0, none⟩) ol c) (.slice (some ⟨g, 0, none⟩) qq c) (by first | rfl | simp [Act.eval, Act.put]) (by first | rfl | simp [Act.eval, Act.put]) _ _ (HAP.out) ?_))
      all_goals go_wp2_with fail
      all_goals go_roundg len
      all_goals (first
        | omega
        | (obtain ⟨out', h1', h2'⟩ := HM.out _ (Fr.refl _ _); exact ⟨out', len - qq, by omega, by first | rfl | (congr 1), h2'⟩))
    · obtain rfl : len = 0 := by omega
      obtain ⟨k1, k2⟩ := HDN.out out wr HI.out
      have hz0 : ¬ (0 : Int) < ((0 : Nat) : Int) := by decide
      go_wp2
      go_end0
      rw [HP.out]
      exact ⟨⟨_, rfl⟩, k1, k2⟩
theorem pmatch_any {D pb : Nat} {va : Value} {ahead : List By} {most : Nat} {s : List By} {K : Nat → Prop} {w : World} (back n : Nat) (h : PI D pb va ahead most s K w) (hD : ∀ k, k < D → K k) (hK : ∀ k, K k → k < w.heap.size) (hb : 1 ≤ back) (hb2 : back < 65536) (hr : (pl ahead most).reaches s back = true) (hn : (pl ahead most).room s n = true) :
    Calls Try.prog 43 #[.pointer (some ⟨pb, 0, none⟩), .int .i64 back, .int .i64 n] w fun e w' => (∃ r, e = .returned r) ∧ PI D pb va ahead most ((pl ahead most).mat s back n) K w' ∧ Fr (fun k => ¬ K k) w w' := by
  have hr' : back ≤ ahead.length + s.length := by simpa [pl] using hr
  have hn' : n + s.length ≤ most := by simpa [pl] using hn
  by_cases hc : back ≤ s.length
  · exact pmatch_in back n h hD hK hb hc (by omega)
  · have ha := h.ha
    rcases ha with ⟨a, rfl, rfl⟩ | ⟨g, hg, o, c, rfl, h1, h2, h3⟩
    · simp at hr'; omega
    · exact pmatch_out back n h h3 h1 h2 hD hK (by omega) hb2 hr' (by omega)
/-- The player is one that is told of sequences. -/
theorem player_tkr (D pb : Nat) (va : Value) (ahead : List By) (most : Nat) : Tkr (pl ahead most) D 32 (.pointer (some ⟨pb, 0, none⟩)) 46 44 45 43 42 (PI D pb va ahead most) where
  mR := fun w => by kernel_rfl
  mP := fun w => by kernel_rfl
  mC := fun w => by kernel_rfl
  mM := fun w => by kernel_rfl
  mE := fun w => by kernel_rfl
  eR := enters_of Try.func46 (by kernel_rfl) rfl
  eP := enters_of Try.func44 (by kernel_rfl) rfl
  eC := enters_of Try.func45 (by kernel_rfl) rfl
  eM := enters_of Try.func43 (by kernel_rfl) rfl
  eE := enters_of Try.func42 (by kernel_rfl) rfl
  grow := fun h f hk => h.grow f hk
  keep := fun h f hk => h.keep f hk
  room := fun n h hn => proom_any n h hn
  plain := fun h hD hK hu _ hr => pplain_any h hD hK hu hr
  reaches := fun n h hn => preaches_any n h hn
  mat := fun back n h hD hK hb hb2 _ hr hn => pmatch_any back n h hD hK hb hb2 hr hn
  fin := fun h _ _ => pend_any h
end Go.Proofs.Ytpnacppmdlnjlab
