import Derived.Test.YtkpkiajehclbhaaVbo
namespace Go.Proofs.Ytkpkiajehclbhaa
open Go.RowKit
set_option linter.unusedVariables false
/-! ### The document's side of BitsLengths -/
def AbA (os : List Int) (z : Int) (w : World) (e : Ending) (w' : World) : Prop := (∃ b : Bool, e = .returned (.tuple #[.int .i64 ((psy os os.length).length : Nat), .bool b]) ∧ (b = true ↔ okO os ∧ 1 ≤ z ∧ z ≤ 15)) ∧ w' = w
set_option maxHeartbeats 16000000 in
theorem above_any (w : World) (v : Value) (os : List Int) (z : Int) (h : SlR RL (fun _ => False) v os w) (hl : os.length ≤ 17592186043904) : Calls Try.prog 40 #[v, .int .i64 z] w (AbA os z w) := by
  obtain ⟨P, hP⟩ : ∃ P : Ending → World → Prop, P = AbA os z w := ⟨_, rfl⟩
  rw [← hP]
  have HS : Hid (SlR RL (fun _ => False) v os w) := h
  obtain ⟨a, c, rfl, hc, hc2, hca⟩ := h.form
  have HP : Hid (P = AbA os z w) := hP
  clear hP h
  generalize hL : os.length = L at *
  have HL : Hid (os.length = L) := hL
  clear hL
  go_enter Try.func40, Try.ntmps40
  go_upto_region 1 with fail
  go_cut [5] (fun r wx => ∃ bb : Bool, r = .bool bb ∧ Hid (bb = true ↔ (0 < L ∧ L ≤ 320) ∧ 1 ≤ z ∧ z ≤ 15) ∧ wx = w)
  case first =>
    clear HP HS
    by_cases c1 : 1 ≤ L
    · have d1 : (1 : Int) ≤ (L : Int) := by omega
      by_cases c2 : L ≤ 320
      · have d2 : (L : Int) ≤ 320 := by omega
        by_cases c3 : 1 ≤ z
        · by_cases c4 : z ≤ 15
          · go_wp2_with fail
            go_meet
            exact ⟨_, rfl, (by show _ = true ↔ _; simp; omega), rfl⟩
          · go_wp2_with fail
            go_meet
            exact ⟨_, rfl, (by show _ = true ↔ _; simp; omega), rfl⟩
        · go_wp2_with fail
          go_meet
          exact ⟨_, rfl, (by show _ = true ↔ _; simp; omega), rfl⟩
      · have d2 : ¬ (L : Int) ≤ 320 := by omega
        go_wp2_with fail
        go_meet
        exact ⟨_, rfl, (by show _ = true ↔ _; simp; omega), rfl⟩
    · have d1 : ¬ (1 : Int) ≤ (L : Int) := by omega
      go_wp2_with fail
      go_meet
      exact ⟨_, rfl, (by show _ = true ↔ _; simp; omega), rfl⟩
  case rest =>
    obtain ⟨bb, rfl, HB, hwc⟩ := hcut
    rw [hwc]
    clear hwc
    go_wp2_with fail
    go_loopg [4, 5, 6] L (fun kx s r i wr => ∃ (I S : Nat) (b2 : Bool), I ≤ L ∧ L - I ≤ kx ∧ S ≤ I ∧ s = .int .i64 S ∧ r = .bool b2 ∧ i = .int .i64 I ∧ wr = w ∧ Hid (S = (psy os I).length) ∧ Hid (b2 = true ↔ bb = true ∧ ∀ j x, j < I → os[j]? = some x → 0 ≤ x ∧ x ≤ 1099511627776))
    case atStart => exact ⟨0, 0, bb, by omega, by omega, by omega, rfl, rfl, rfl, rfl, (by show 0 = _; simp [psy]), ⟨fun h => ⟨h, fun j x hj => by omega⟩, fun h => h.1⟩⟩
    case round =>
      obtain ⟨I, S, b2, hI, hkx, hSI, rfl, rfl, rfl, rfl, HI, HJ⟩ := hrel
      by_cases hlt : I < L
      · have hlt' : I < os.length := by rw [HL.out]; exact hlt
        have hxx := kof_at os I hlt'
        obtain ⟨g, o, rfl, _, hcell⟩ := rl_at HS.out I _ hxx
        have hz : (I : Int) < (L : Int) := by omega
        have hps := psy_succ os I
        obtain ⟨x, hx⟩ : ∃ x, kof os I = x := ⟨_, rfl⟩
        rw [hx] at hcell hxx hps
        have HJ2 : Hid ((0 ≤ x ∧ x ≤ 1099511627776) → (b2 = true ↔ bb = true ∧ ∀ j y, j < I + 1 → os[j]? = some y → 0 ≤ y ∧ y ≤ 1099511627776)) := fun hr => by
          rw [HJ.out]
          refine ⟨fun h => ⟨h.1, fun j y hj hy => ?_⟩, fun h => ⟨h.1, fun j y hj hy => h.2 j y (by omega) hy⟩⟩
          by_cases e : j = I
          · rw [e, hxx] at hy; injection hy with hy; subst hy; exact hr
          · exact h.2 j y (by omega) hy
        have HJ3 : Hid (¬ (0 ≤ x ∧ x ≤ 1099511627776) → (false = true ↔ bb = true ∧ ∀ j y, j < I + 1 → os[j]? = some y → 0 ≤ y ∧ y ≤ 1099511627776)) := fun hr => by
          simp only [Bool.false_eq_true, false_iff]
          intro h
          exact hr (h.2 I x (by omega) hxx)
        by_cases h1 : x < 0
        · rw [if_neg (by omega)] at hps
          have HI2 : Hid (S = (psy os (I + 1)).length) := by rw [hps]; exact HI
          have HJ4 : Hid (false = true ↔ bb = true ∧ ∀ j y, j < I + 1 → os[j]? = some y → 0 ≤ y ∧ y ≤ 1099511627776) := HJ3.out (by omega)
          have h3 : ¬ 0 < x := by omega
          clear HI HJ HJ2 HJ3 HS HP hxx hps hx HB
          go_wp2_with fail
          go_roundg (L - (I + 1))
          case measure => omega
          case rel => exact ⟨I + 1, S, false, by omega, by omega, by omega, rfl, rfl, by first | rfl | (congr 1), rfl, HI2, HJ4⟩
        · by_cases h2 : 1099511627776 < x
          · rw [if_pos (by omega)] at hps
            have HI2 : Hid (S + 1 = (psy os (I + 1)).length) := by rw [hps, List.length_append, List.length_singleton, ← HI.out]; exact rfl
            have HJ4 : Hid (false = true ↔ bb = true ∧ ∀ j y, j < I + 1 → os[j]? = some y → 0 ≤ y ∧ y ≤ 1099511627776) := HJ3.out (by omega)
            have h3 : 0 < x := by omega
            clear HI HJ HJ2 HJ3 HS HP hxx hps hx HB
            go_wp2_with fail
            go_roundg (L - (I + 1))
            case measure => omega
            case rel => exact ⟨I + 1, S + 1, false, by omega, by omega, by omega, by first | rfl | (congr 1), rfl, by first | rfl | (congr 1), rfl, HI2, HJ4⟩
          · have HJ4 : Hid (b2 = true ↔ bb = true ∧ ∀ j y, j < I + 1 → os[j]? = some y → 0 ≤ y ∧ y ≤ 1099511627776) := HJ2.out (by omega)
            by_cases h3 : 0 < x
            · rw [if_pos h3] at hps
              have HI2 : Hid (S + 1 = (psy os (I + 1)).length) := by rw [hps, List.length_append, List.length_singleton, ← HI.out]; exact rfl
              clear HI HJ HJ2 HJ3 HS HP hxx hps hx HB
              go_wp2_with fail
              go_roundg (L - (I + 1))
              case measure => omega
              case rel => exact ⟨I + 1, S + 1, b2, by omega, by omega, by omega, by first | rfl | (congr 1), rfl, by first | rfl | (congr 1), rfl, HI2, HJ4⟩
            · rw [if_neg h3] at hps
              have HI2 : Hid (S = (psy os (I + 1)).length) := by rw [hps]; exact HI
              clear HI HJ HJ2 HJ3 HS HP hxx hps hx HB
              go_wp2_with fail
              go_roundg (L - (I + 1))
              case measure => omega
              case rel => exact ⟨I + 1, S, b2, by omega, by omega, by omega, rfl, rfl, by first | rfl | (congr 1), rfl, HI2, HJ4⟩
      · obtain rfl : I = L := by omega
        have hz : ¬ (I : Int) < (I : Int) := by omega
        have HF2 : Hid (P (.returned (.tuple #[.int .i64 S, .bool b2])) wr) := by
          show P _ _
          rw [HP.out]
          refine ⟨⟨b2, by rw [HL.out, HI.out], ?_⟩, rfl⟩
          rw [HJ.out, HB.out, okO, HL.out]
          constructor
          · rintro ⟨⟨⟨h1, h2⟩, h3, h4⟩, h5⟩
            exact ⟨⟨fun j x hx => h5 j x (by have := (List.getElem?_eq_some_iff.1 hx).1; rw [HL.out] at this; exact this) hx, h1, h2⟩, h3, h4⟩
          · rintro ⟨⟨h5, h1, h2⟩, h3, h4⟩
            exact ⟨⟨⟨h1, h2⟩, h3, h4⟩, fun j x _ hx => h5 j x hx⟩
        clear HI HJ HS HP HB
        go_wp2_with fail
        exact HF2.out
end Go.Proofs.Ytkpkiajehclbhaa

namespace Go.Proofs.Ytkpkiajehclbhaa
open Go.RowKit
set_option linter.unusedVariables false
/-! ### Packages in memory, and the document's sorted -/
abbrev Pk := Nat × (Option Addr × Nat × Nat)
def RP : RT Pk := { enc := fun x => [.int .i64 (x.1 : Nat), .slice x.2.1 x.2.2.1 x.2.2.2], k := 2, T := 107, TS := 105, z := (0, none, 0, 0), by_ := 32 }
theorem rpOk : RP.Ok := by
  refine ⟨fun _ => rfl, by decide, fun x v hv => ?_, Try.underlying105, ?_⟩
  · simp only [RP, List.mem_cons, List.mem_nil_iff, or_false] at hv
    rcases hv with rfl | rfl <;> rfl
  · have h : (Try.prog.info? 107).map (fun i => (i.zero, i.size, i.bytes)) = some (some (.agg #[.int .i64 0, .slice none 0 0]), 2, 32) := by kernel_rfl
    cases hq : Try.prog.info? 107 with
    | none => simp [hq] at h
    | some i => simp [hq] at h; exact ⟨i, _, hq, h.1, h.2.1, h.2.2, rfl⟩
theorem rp_at {X : Nat → Prop} {a : Option Addr} {n c : Nat} {l : List Pk} {w : World} (h : SlR RP X (.slice a n c) l w) (i : Nat) (x : Pk) (hx : l[i]? = some x) : ∃ g o, a = some ⟨g, o, none⟩ ∧ ¬ X g ∧ w.cell? ⟨g, o + i * 2, none⟩ = some (.int .i64 (x.1 : Nat)) ∧ w.cell? ⟨g, o + i * 2 + 1, none⟩ = some (.slice x.2.1 x.2.2.1 x.2.2.2) := by
  obtain ⟨g, o, e, hg, hc⟩ := h.at i x hx
  exact ⟨g, o, e, hg, hc 0 _ rfl, hc 1 _ rfl⟩
theorem OwR.pre {α : Type} {R : RT α} (hR : R.Ok) {g n c : Nat} {l : List α} {w : World} (h : OwR R g (.slice (some ⟨g, 0, none⟩) n c) l w) (hn : l.length = n) (k : Nat) (hk : k ≤ n) : OwR R g (.slice (some ⟨g, 0, none⟩) k c) (l.take k) w := by
  obtain ⟨xs, f1, f2, f3, f4, f5⟩ := h
  have hx : c = xs.length := by
    generalize l.length = q at f1
    cases f1; rfl
  have hl : (l.take k).length = k := by rw [List.length_take]; omega
  refine ⟨xs, by rw [hl, hx], ?_, by rw [hl]; omega, f4, f5⟩
  rw [hl]
  conv => rhs; rw [← f2]
  rw [List.take_take]
  congr 1; omega
theorem OwR.suf {α : Type} {R : RT α} (hR : R.Ok) {g n c : Nat} {l : List α} {w : World} (h : OwR R g (.slice (some ⟨g, 0, none⟩) n c) l w) (hn : l.length = n) (k : Nat) (hk : k ≤ n) (o' c' : Nat) (ho : (o' = k * R.k ∧ c' = c - k) ∨ (c ≤ k ∧ c' = 0)) : SlR R (fun _ => False) (.slice (some ⟨g, o', none⟩) (n - k) c') (l.drop k) w := by
  obtain ⟨c1, e, q1, q2⟩ := h.form
  have hx : c1 = c := by
    generalize l.length = q at e
    cases e; rfl
  subst hx
  rcases ho with ⟨rfl, rfl⟩ | ⟨hc, rfl⟩
  · refine .inr ⟨g, k * R.k, c1 - k, fun h => h, by rw [List.length_drop, hn], by rw [List.length_drop]; omega, by omega, fun i x j u hx hu => ?_⟩
    rw [List.getElem?_drop] at hx
    have := (h.cell hR (k + i) j x u hx hu).1
    rw [Nat.add_mul] at this
    exact this
  · have e1 : n - k = 0 := by omega
    rw [e1, List.drop_of_length_le (by omega)]
    exact .inl ⟨_, rfl, rfl⟩
/-- One goes in at k: three appends. -/
theorem ins_one (V : World) (g n c : Nat) (qs : List Pk) (h : OwR RP g (.slice (some ⟨g, 0, none⟩) n c) qs V) (hn : qs.length = n) (hn2 : n ≤ 10000) (k : Nat) (hk : k ≤ n) (x : Pk) :
    ∃ g1 c1 W1 g2 c2 W2, Hid (∀ ty, (Builtin.append_ #[105, 105] ty #[.slice (some ⟨V.heap.size, 0, none⟩) 0 0, .slice (some ⟨g, 0, none⟩) k c]).run Try.prog (V.alloc (.cells #[] 107)) = .ok (.slice (some ⟨g1, 0, none⟩) k c1) W1) ∧
      Hid (∀ ty, (Builtin.append_ #[105, 105] ty #[.slice (some ⟨g1, 0, none⟩) k c1, .slice (some ⟨W1.heap.size, 0, none⟩) 1 1]).run Try.prog (W1.alloc (.cells #[.int .i64 (x.1 : Nat), .slice x.2.1 x.2.2.1 x.2.2.2] 107)) = .ok (.slice (some ⟨g2, 0, none⟩) (k + 1) c2) W2) ∧ Nw V W1 ∧ Nw V W2 ∧
      ∀ o' c', ((o' = k * 2 ∧ c' = c - k) ∨ (c ≤ k ∧ c' = 0)) → ∃ g3 c3 W3, Hid (∀ ty, (Builtin.append_ #[105, 105] ty #[.slice (some ⟨g2, 0, none⟩) (k + 1) c2, .slice (some ⟨g, o', none⟩) (n - k) c']).run Try.prog W2 = .ok (.slice (some ⟨g3, 0, none⟩) (n + 1) c3) W3) ∧ OwR RP g3 (.slice (some ⟨g3, 0, none⟩) (n + 1) c3) (qs.take k ++ x :: qs.drop k) W3 ∧ Nw V W3 ∧ V.heap.size ≤ g3 := by
  have hlt := h.lt
  have hN0 : Nw V (V.alloc (.cells #[] 107)) := (Fr.refl _ _).alloc _
  have hs0 : (V.alloc (.cells #[] 107)).heap.size = V.heap.size + 1 := by simp
  have hpl : (qs.take k).length = k := by rw [List.length_take]; omega
  have hpre := ((h.pre rpOk hn k hk).nw hN0).slr rpOk
  obtain ⟨v1, g1, W1, a1, a2, a3, a4⟩ := owR_app rpOk _ _ _ _ (OwR.empty (R := RP) V) (.slice (some ⟨g, 0, none⟩) k c) (qs.take k) (hpre.mono (fun _ h => h.elim)) (by simp only [RP, List.length_nil]; omega) (by simp; omega)
  rw [List.nil_append] at a2
  obtain ⟨c1, e1, _, _⟩ := a2.form
  rw [hpl] at e1
  subst e1
  have n1 : Nw V W1 := Fr.then hN0 a3 (fun i hi => .inr (by omega))
  have hg1 : V.heap.size ≤ g1 := by
    rcases a4 with e | e
    · omega
    · have e2 : (V.alloc (.cells #[] RP.T)).heap.size = V.heap.size + 1 := by simp
      omega
  obtain ⟨g2, c2, W2, b1, b2, b3, b4, b5, b6⟩ := ow_push rpOk W1 g1 k c1 _ a2 hpl x #[.int .i64 (x.1 : Nat), .slice x.2.1 x.2.2.1 x.2.2.2] rfl (by simp only [RP]; omega) (by omega)
  have n2 : Nw V W2 := Fr.then n1 b3 (fun i hi => .inr (by omega))
  have hg2 : V.heap.size ≤ g2 := by
    have := n1.size
    rcases b4 with e | e <;> omega
  refine ⟨g1, c1, W1, g2, c2, W2, a1, b1, n1, n2, fun o' c' ho => ?_⟩
  have hsuf := (h.suf rpOk hn k hk o' c' ho).nw n2
  obtain ⟨v3, g3, W3, d1, d2, d3, d4⟩ := owR_app rpOk W2 g2 _ _ b2 (.slice (some ⟨g, o', none⟩) (n - k) c') (qs.drop k) hsuf (by simp only [RP, List.length_append, hpl, List.length_drop, List.length_singleton]; omega) (by simp [hpl]; omega)
  obtain ⟨c3, e3, _, _⟩ := d2.form
  have el : (qs.take k ++ [x] ++ qs.drop k).length = n + 1 := by simp [hpl]; omega
  rw [el] at e3
  subst e3
  rw [List.append_assoc, List.singleton_append] at d2
  refine ⟨g3, c3, W3, d1, d2, Fr.then n2 d3 (fun i hi => .inr (by omega)), ?_⟩
  have := n2.size
  rcases d4 with e | e <;> omega
theorem ins_perm (qs : List Pk) (k : Nat) (x : Pk) : (qs.take k ++ x :: qs.drop k).Perm (qs ++ [x]) := by
  refine List.perm_middle.trans ?_
  rw [List.take_append_drop]
  exact (List.perm_append_singleton x qs).symm
abbrev SoP (qs : List Pk) : Prop := qs.Pairwise (fun a b => a.1 ≤ b.1)
theorem ins_sorted (qs : List Pk) (hs : SoP qs) (k : Nat) (x : Pk) (h1 : ∀ a ∈ qs.take k, a.1 ≤ x.1) (h2 : ∀ b ∈ qs.drop k, x.1 ≤ b.1) : SoP (qs.take k ++ x :: qs.drop k) := by
  have h := hs
  unfold SoP at h
  rw [← List.take_append_drop k qs, List.pairwise_append] at h
  unfold SoP
  rw [List.pairwise_append]
  refine ⟨h.1, List.pairwise_cons.2 ⟨h2, h.2.1⟩, fun a ha b hb => ?_⟩
  rcases List.mem_cons.1 hb with rfl | hb
  · exact h1 a ha
  · exact h.2.2 a ha b hb
end Go.Proofs.Ytkpkiajehclbhaa
