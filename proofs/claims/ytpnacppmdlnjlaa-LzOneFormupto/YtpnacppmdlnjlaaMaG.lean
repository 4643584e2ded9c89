import Derived.Test.YtpnacppmdlnjlaaMaF
namespace Go.Proofs.Ytpnacppmdlnjlaa
open Go.RowKit
set_option linter.unusedVariables false
def encP (s : Si) : List By := if s.b = 0 then encL s.p else encS ⟨s.p, s.b.toNat, s.n.toNat⟩
def mkI (l : List Si) : List By := l.flatMap encP
def okI (s : Si) : Prop := (s.b = 0 ∧ s.n = 0) ∨ canI s
theorem CanB.ok {l : List Si} (h : CanB l) (s : Si) (hs : s ∈ l) : okI s := by
  obtain ⟨i, hi, rfl⟩ := List.mem_iff_getElem.1 hs
  by_cases h2 : i + 1 < l.length
  · exact .inr (h.2.1 i h2)
  · have hl := h.2.2 (by omega)
    have e : l.length - 1 = i := by omega
    simp only [e] at hl
    exact .inl hl
theorem ext_le (n : Nat) : (ext n).length ≤ n + 1 := by unfold ext numb; split <;> simp; omega
theorem encP_le (s : Si) (h : okI s) : (encP s).length ≤ 3 * (s.p.length + s.n.toNat) + 2 := by
  have h1 := ext_le s.p.length
  have h2 := ext_le (s.n.toNat - 4)
  unfold encP
  rcases h with ⟨hb, hn⟩ | ⟨hb, _, hn⟩
  · rw [if_pos hb]
    unfold encL
    simp only [List.length_cons, List.length_append]
    omega
  · rw [if_neg (by omega)]
    unfold encS
    simp only [List.length_cons, List.length_append]
    omega
theorem mkI_take (l : List Si) (I : Nat) (h : I < l.length) : mkI (l.take (I + 1)) = mkI (l.take I) ++ encP l[I] := by
  unfold mkI
  rw [← List.take_append_getElem h, List.flatMap_append]
  simp
/-- All but the last take four bytes and more. -/
theorem CanB.count {l : List Si} (h : CanB l) (I : Nat) (hI : I ≤ l.length) : 4 * I ≤ tot (l.take I) + 4 := by
  induction I with
  | zero => omega
  | succ I ih =>
    have hlt : I < l.length := by omega
    have := ih (by omega)
    rw [tot_step l I hlt]
    by_cases h2 : I + 1 < l.length
    · have := (h.2.1 I h2).2.2; omega
    · cases I with
      | zero => omega
      | succ J =>
        have hJ := ih (by omega)
        rw [tot_step l J (by omega)] at hJ ⊢
        have := (h.2.1 J (by omega)).2.2
        have e : ∀ m, m ≤ J → 4 * m ≤ tot (l.take m) := fun m => by
          induction m with
          | zero => intro _; omega
          | succ m ihm =>
            intro hm
            have := ihm (by omega)
            rw [tot_step l m (by omega)]
            have := (h.2.1 m (by omega)).2.2
            omega
        have := e J (Nat.le_refl _)
        omega
theorem mkI_le {l : List Si} (h : CanB l) (I : Nat) (hI : I ≤ l.length) : (mkI (l.take I)).length ≤ 3 * tot (l.take I) + 2 * I := by
  induction I with
  | zero => simp [mkI]
  | succ I ih =>
    have hlt : I < l.length := by omega
    have := ih (by omega)
    have := encP_le l[I] (h.ok _ (List.getElem_mem hlt))
    rw [mkI_take l I hlt, tot_step l I hlt, List.length_append]
    omega
theorem put_any (K : Nat → Prop) (w : World) (hK : ∀ k, K k → k < w.heap.size) (v : Value) (b : List By) (hb : Mine K v b w) (vp : Value) (s : Si) (hp : Sl (fun k => ¬ K k) vp s.p w) (hpl : s.p.length ≤ 10000000) (hnl : s.n ≤ 10000000) (hok : okI s) (hs : b.length ≤ 100000000) :
    Calls Try.prog 35 #[v, .agg #[vp, .int .i64 s.b, .int .i64 s.n]] w fun e w' => ∃ v', e = .returned v' ∧ Mine K v' (b ++ encP s) w' ∧ Fr (fun k => ¬ K k) w w' := by
  unfold encP
  rcases hok with ⟨h1, h2⟩ | ⟨h1, h2, h3⟩
  · rw [if_pos h1, h1, h2]
    exact put_last K w hK v b hb vp s.p hp hpl hs
  · rw [if_neg (by omega)]
    have := put_match K w hK v b hb vp s.p hp hpl s.b.toNat s.n.toNat (by omega) (by omega) (by omega) (by omega) hs
    rw [Int.toNat_of_nonneg (by omega), Int.toNat_of_nonneg (by omega)] at this
    exact this
open Classical in
/-- What Make answers. -/
noncomputable def mkR (l : List Si) : List By × Nat := if CanB l then (if tot l ≤ 4194304 then (mkI l, 0) else ([], 2)) else ([], 1)
theorem mkR_arg {l : List Si} (h : ¬ CanB l) : mkR l = ([], 1) := by unfold mkR; rw [if_neg h]
theorem mkR_long {l : List Si} (h : CanB l) (h2 : ¬ tot l ≤ 4194304) : mkR l = ([], 2) := by unfold mkR; rw [if_pos h, if_neg h2]
theorem mkR_ok {l : List Si} (h : CanB l) (h2 : tot l ≤ 4194304) : mkR l = (mkI l, 0) := by unfold mkR; rw [if_pos h, if_pos h2]
def Makd (r : List By × Nat) (w : World) (e : Ending) (w' : World) : Prop := ∃ a c, e = .returned (.tuple #[.slice a r.1.length c, .int .i64 r.2]) ∧ Mine (fun k => k < w.heap.size) (.slice a r.1.length c) r.1 w' ∧ Nw w w'
theorem Makd.none {y : Nat} {w w' : World} (h : Nw w w') : Makd ([], y) w (.returned (.tuple #[.slice none 0 0, .int .i64 y])) w' := ⟨_, _, rfl, .inl ⟨rfl, rfl⟩, h⟩
theorem nw_of {w w' : World} (h : Fr (fun k => ¬ k < w.heap.size) w w') : Nw w w' := h.mono (fun k hk => .inr (by omega))
abbrev OldS (w : World) (v : Value) (l : List Si) : Prop := SqR (fun k => w.heap.size ≤ k) v l w
set_option maxHeartbeats 8000000 in
set_option maxRecDepth 100000 in
theorem lzMake_any (w : World) (v : Value) (l : List Si) (hl : OldS w v l) : Calls Try.prog 19 #[v] w (Makd (mkR l) w) := by
  obtain ⟨P, hP⟩ : ∃ P, P = Makd (mkR l) w := ⟨_, rfl⟩
  rw [← hP]
  have HP : Hid (P = Makd (mkR l) w) := hP
  clear hP
  by_cases hcan : ¬ CanB l
  · have HC : Hid (Calls Try.prog 33 #[v] w fun e w' => e = .returned (.bool false) ∧ Hid (P (.returned (.tuple #[.slice none 0 0, .int .i64 1])) w')) := by
      refine (canBe_any _ w v l hl false ⟨fun h => (by cases h), fun h => absurd h hcan⟩).mono ?_
      rintro e w' ⟨rfl, hN⟩
      refine ⟨rfl, ?_⟩
      show P _ _
      rw [HP.out, mkR_arg hcan]
      exact Makd.none hN
    clear hl HP
    go_enter Try.func19, Try.ntmps19
    go_wp2_with (first | (go_at_call 33; with_reducible refine (HC.out).mono ?_; rintro e w1 ⟨rfl, HE⟩))
    exact HE.out
  replace hcan : CanB l := Classical.not_not.1 hcan
  by_cases hfit : ¬ tot l ≤ 4194304
  · have HC : Hid (Calls Try.prog 33 #[v] w fun e w' => e = .returned (.bool true) ∧ Hid (Calls Try.prog 34 #[v] w' fun e w2 => e = .returned (.bool false) ∧ Hid (P (.returned (.tuple #[.slice none 0 0, .int .i64 2])) w2))) := by
      refine (canBe_any _ w v l hl true ⟨fun _ => hcan, fun _ => rfl⟩).mono ?_
      rintro e w' ⟨rfl, hN⟩
      refine ⟨rfl, ?_⟩
      refine (fits_any _ w' v l (hl.nw hN) hcan.pos false ⟨fun h => (by cases h), fun h => absurd h hfit⟩).mono ?_
      rintro e w2 ⟨rfl, hN2⟩
      refine ⟨rfl, ?_⟩
      show P _ _
      rw [HP.out, mkR_long hcan hfit]
      exact Makd.none (hN.trans hN2)
    clear hl HP
    go_enter Try.func19, Try.ntmps19
    go_wp2_with (first
      | (go_at_call 33; with_reducible refine (HC.out).mono ?_; rintro e w1 ⟨rfl, HC2⟩)
      | (go_at_call 34; with_reducible refine (HC2.out).mono ?_; rintro e w2 ⟨rfl, HE⟩))
    exact HE.out
  replace hfit : tot l ≤ 4194304 := Classical.not_not.1 hfit
  have HC : Hid (Calls Try.prog 33 #[v] w fun e w' => e = .returned (.bool true) ∧ Hid (Calls Try.prog 34 #[v] w' fun e w2 => e = .returned (.bool true) ∧ Hid (Nw w w2))) := by
    refine (canBe_any _ w v l hl true ⟨fun _ => hcan, fun _ => rfl⟩).mono ?_
    rintro e w' ⟨rfl, hN⟩
    refine ⟨rfl, ?_⟩
    refine (fits_any _ w' v l (hl.nw hN) hcan.pos true ⟨fun _ => hfit, fun _ => rfl⟩).mono ?_
    rintro e w2 ⟨rfl, hN2⟩
    exact ⟨rfl, hN.trans hN2⟩
  obtain ⟨a, c, rfl, hc, hc2, hL⟩ := hl.form
  have HL : Hid (OldS w (.slice a l.length c) l) := hl
  have Hcan : Hid (CanB l) := hcan
  have Hfit : Hid (tot l ≤ 4194304) := hfit
  clear hl hcan hfit
  generalize hln : l.length = L at *
  have hln' : Hid (l.length = L) := hln
  clear hln
  go_enter Try.func19, Try.ntmps19
  go_wp2_with (first
    | (go_at_call 33; with_reducible refine (HC.out).mono ?_; rintro e w1 ⟨rfl, HC2⟩)
    | (go_at_call 34; with_reducible refine (HC2.out).mono ?_; rintro e w2 ⟨rfl, HN2⟩))
  clear HC HC2
  go_loopg [4, 15] L (fun kx b i wr => ∃ (I : Nat), I ≤ L ∧ L - I ≤ kx ∧ i = .int .i64 I ∧ Hid (Nw w wr ∧ Mine (fun k => k < w.heap.size) b (mkI (l.take I)) wr))
  case atStart => exact ⟨0, by omega, by omega, rfl, HN2.out, by simp [mkI]; exact Mine.nil _ _⟩
  case round =>
    obtain ⟨I, hI, hkx, rfl, HI⟩ := hrel
    have hN := HI.out.1
    by_cases hlt : I < L
    · have hlt' : I < l.length := by rw [hln'.out]; omega
      obtain ⟨g, o, pa, pc, _, rfl, x0, x1, x2, hsl, hpl⟩ := (HL.out.nw hN).at I hlt'
      have hz : (I : Int) < (L : Int) := by omega
      have hA : Nw wr (wr.alloc (.cells #[.slice pa l[I].p.length pc, .int .i64 l[I].b, .int .i64 l[I].n] 36)) := (Fr.refl _ _).alloc _
      have hst := tot_step l I hlt'
      have htk := tot_take l (I + 1)
      have hcnt := Hcan.out.count (I + 1) (by omega)
      have hmk := mkI_le Hcan.out I (by omega)
      have hft := Hfit.out
      have hps := Hcan.out.pos _ (List.getElem_mem hlt')
      have HPU : Hid (Calls Try.prog 35 #[u4, .agg #[.slice pa l[I].p.length pc, .int .i64 l[I].b, .int .i64 l[I].n]] (wr.alloc (.cells #[.slice pa l[I].p.length pc, .int .i64 l[I].b, .int .i64 l[I].n] 36)) fun e w' => ∃ v', e = .returned v' ∧ Hid (Nw w w' ∧ Mine (fun k => k < w.heap.size) v' (mkI (l.take (I + 1))) w')) := by
        refine (put_any (fun k => k < w.heap.size) _ (fun k hk => Nat.lt_of_lt_of_le hk (hN.trans hA).size) u4 _ (HI.out.2.nw hA) _ l[I] ((hsl.nw hA).mono (fun g hg => by omega)) (by omega) (by omega) (Hcan.out.ok _ (List.getElem_mem hlt')) (by omega)).mono ?_
        rintro e w' ⟨v', rfl, hM, hF⟩
        refine ⟨v', rfl, nw_of ((hN.trans hA).any.trans hF), ?_⟩
        rw [mkI_take l I hlt']; exact hM
      clear HI HL HP Hcan Hfit hst htk hcnt hmk hft hps hsl hpl hA HN2
      generalize l[I].p.length = pn at *
      generalize l[I].b = zb at *
      generalize l[I].n = zn at *
      go_wp2_with (first | (go_at_call 35; with_reducible refine (HPU.out).mono ?_; rintro e w3 ⟨v3, rfl, HR⟩))
      go_roundg (L - (I + 1))
      all_goals (first | omega | exact ⟨I + 1, by omega, by omega, by first | rfl | (congr 1), HR.out⟩)
    · obtain rfl : I = L := by omega
      have HF' : Hid (P (.returned (.tuple #[u4, .int .i64 0])) wr) := by
        show P _ _
        rw [HP.out, mkR_ok Hcan.out Hfit.out]
        have hM := HI.out.2
        rw [← hln'.out, List.take_length] at hM
        obtain ⟨ax, cx, rfl, _, _⟩ := hM.sl.form
        exact ⟨ax, cx, rfl, hM, hN⟩
      have hz : ¬ (I : Int) < (I : Int) := by omega
      clear HI HL HP hlt Hcan Hfit HN2
      go_wp2
      exact HF'.out
end Go.Proofs.Ytpnacppmdlnjlaa
