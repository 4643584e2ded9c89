import Derived.Test.YtoplhkpbicgceaaPuC
namespace Go.Proofs.Ytoplhkpbicgceaa
open Go.RowKit
set_option linter.unusedVariables false
/-- One more behind a list. -/
theorem pushS (V : World) (g n c : Nat) (l : List Tx) (h : OwR RS g (.slice (some ⟨g, 0, none⟩) n c) l V) (hn : l.length = n) (hl : n ≤ 8796093022208) (x : Tx) :
    ∃ g' c' W, Hid (∀ ty, (Builtin.append_ #[38, 38] ty #[.slice (some ⟨g, 0, none⟩) n c, .slice (some ⟨V.heap.size, 0, none⟩) 1 1]).run Try.prog (V.alloc (.cells #[.string (mk x)] 9)) = .ok (.slice (some ⟨g', 0, none⟩) (n + 1) c') W) ∧
      OwR RS g' (.slice (some ⟨g', 0, none⟩) (n + 1) c') (l ++ [x]) W ∧ Fr (fun k => k = g) V W ∧ (g' = g ∨ V.heap.size ≤ g') ∧ n + 1 ≤ c' ∧ c' < 9223372036854775808 := by
  subst hn
  have hN : Nw V (V.alloc (.cells #[.string (mk x)] 9)) := (Fr.refl _ _).alloc _
  have hb := lit1 V x
  obtain ⟨v', g', W, k1, k2, k3, k4⟩ := owR_app rsOk _ g _ l (h.nw hN) (.slice (some ⟨V.heap.size, 0, none⟩) 1 1) [x] hb.anyS (by simp only [RS, List.length_singleton]; omega) (by simp only [List.length_singleton]; omega)
  obtain ⟨c', e, q1, q2⟩ := k2.form
  rw [List.length_append, List.length_singleton] at e q1
  subst e
  refine ⟨g', c', W, k1, k2, hN.any.trans k3, ?_, q1, q2⟩
  have e2 : (V.alloc (.cells #[.string (mk x)] 9)).heap.size = V.heap.size + 1 := by simp
  rcases k4 with e | e
  · exact .inl e
  · exact .inr (by omega)
theorem mk_get (l : Tx) (i : Nat) (hi : i < l.length) (h : i < (mk l).size) : (mk l)[i]'h = l[i]'hi := by
  show (mk l).data[i]'_ = _
  simp [mk]
/-- How Pieces' loop stands. -/
def PcI (l : Tx) (w : World) (I F g n c : Nat) (V : World) : Prop := ∃ done : List Tx, OwR RS g (.slice (some ⟨g, 0, none⟩) n c) done V ∧ done.length = n ∧ w.heap.size ≤ g ∧ Nw w V ∧ n ≤ F ∧
  ((I ≤ l.length ∧ F ≤ I ∧ (47 : UInt8) ∉ (l.take I).drop F ∧ pcs l = done ++ pcs (l.drop F)) ∨ (l.length < I ∧ pcs l = done))
theorem PcI.start (l : Tx) (w : World) : PcI l w 0 0 w.heap.size 0 0 (w.alloc (.cells #[] 9)) :=
  ⟨[], OwR.empty (R := RS) w, rfl, Nat.le_refl _, (Fr.refl _ _).alloc _, Nat.le_refl _, .inl ⟨Nat.zero_le _, Nat.le_refl _, by simp, rfl⟩⟩
theorem PcI.on {l : Tx} {w : World} {I F g n c : Nat} {V : World} (h : PcI l w I F g n c V) (hI : I < l.length) (hc : l[I] ≠ 47) : PcI l w (I + 1) F g n c V := by
  obtain ⟨done, h1, h2, h3, h4, h5, h6⟩ := h
  rcases h6 with ⟨k1, k2, k3, k4⟩ | ⟨k1, _⟩
  · refine ⟨done, h1, h2, h3, h4, h5, .inl ⟨by omega, by omega, ?_, k4⟩⟩
    rw [List.take_add_one, List.getElem?_eq_getElem hI, Option.toList_some, List.drop_append_of_le_length (by rw [List.length_take]; omega), List.mem_append, List.mem_singleton, not_or]
    exact ⟨k3, fun e => hc e.symm⟩
  · omega
theorem PcI.cut {l : Tx} {w : World} {I F g n c : Nat} {V : World} (h : PcI l w I F g n c V) (hI : I ≤ l.length) (hc : I = l.length ∨ l[I]? = some 47) (hl : l.length ≤ 1048576) :
    ∃ g' c' W, Hid (∀ ty, (Builtin.append_ #[38, 38] ty #[.slice (some ⟨g, 0, none⟩) n c, .slice (some ⟨V.heap.size, 0, none⟩) 1 1]).run Try.prog (V.alloc (.cells #[.string (mk ((l.take I).drop F))] 9)) = .ok (.slice (some ⟨g', 0, none⟩) (n + 1) c') W) ∧ PcI l w (I + 1) (I + 1) g' (n + 1) c' W ∧ n + 1 ≤ c' ∧ c' < 9223372036854775808 := by
  obtain ⟨done, h1, h2, h3, h4, h5, h6⟩ := h
  rcases h6 with ⟨k1, k2, k3, k4⟩ | ⟨k1, _⟩
  · obtain ⟨g', c', W, a1, a2, a3, a4, a5, a6⟩ := pushS V g n c done h1 h2 (by omega) ((l.take I).drop F)
    refine ⟨g', c', W, a1, ⟨done ++ [(l.take I).drop F], a2, by simp [h2], ?_, Fr.then h4 a3 (fun i hi => .inr (by omega)), by omega, ?_⟩, a5, a6⟩
    · have := h4.size
      rcases a4 with e | e <;> omega
    · have hd : l.drop F = (l.take I).drop F ++ l.drop I := by
        conv => lhs; rw [← List.take_append_drop I l]
        rw [List.drop_append_of_le_length (by rw [List.length_take]; omega)]
      rcases hc with e | e
      · right
        refine ⟨by omega, ?_⟩
        have hn : l.drop I = [] := List.drop_of_length_le (by omega)
        rw [k4, hd, hn, List.append_nil, pcs_none _ k3]
      · left
        obtain ⟨hi, he⟩ := List.getElem?_eq_some_iff.1 e
        refine ⟨by omega, Nat.le_refl _, ?_, ?_⟩
        · rw [List.drop_of_length_le (by rw [List.length_take]; omega)]; simp
        · rw [k4, hd, List.drop_eq_getElem_cons hi, he, pcs_at _ _ k3, List.append_assoc, List.singleton_append]
  · omega
set_option maxHeartbeats 8000000 in
set_option maxRecDepth 100000 in
theorem qpieces_any (w : World) (l : Tx) (hl : l.length ≤ 1048576) :
    Calls Try.prog 21 #[.string (mk l)] w fun e w' => ∃ g c, e = .returned (.slice (some ⟨g, 0, none⟩) (pcs l).length c) ∧ OwR RS g (.slice (some ⟨g, 0, none⟩) (pcs l).length c) (pcs l) w' ∧ Nw w w' ∧ w.heap.size ≤ g := by
  obtain ⟨P, hP⟩ : ∃ P : Ending → World → Prop, P = fun e w' => ∃ g c, e = .returned (.slice (some ⟨g, 0, none⟩) (pcs l).length c) ∧ OwR RS g (.slice (some ⟨g, 0, none⟩) (pcs l).length c) (pcs l) w' ∧ Nw w w' ∧ w.heap.size ≤ g := ⟨_, rfl⟩
  rw [← hP]
  have HFIN : Hid (∀ I F g n c V, PcI l w I F g n c V → l.length < I → P (.returned (.slice (some ⟨g, 0, none⟩) n c)) V) := fun I F g n c V h hI => by
    obtain ⟨done, h1, h2, h3, h4, h5, h6⟩ := h
    rcases h6 with ⟨k1, _⟩ | ⟨k1, k2⟩
    · omega
    · rw [hP]
      subst h2
      rw [← k2] at h1 ⊢
      exact ⟨g, c, rfl, h1, h4, h3⟩
  have HS : Hid (PcI l w 0 0 w.heap.size 0 0 (w.alloc (.cells #[] 9))) := PcI.start l w
  have hsz := mk_size l
  have HE : Hid (∀ F I, (mk l).extract F I = mk ((l.take I).drop F)) := mk_ext l
  have HG : Hid (∀ i (hi : i < l.length) (h : i < (mk l).size), ((mk l)[i]'h) = l[i]'hi) := mk_get l
  obtain ⟨L, hL⟩ : ∃ L, L = l.length := ⟨_, rfl⟩
  have HL : Hid (L = l.length) := hL
  rw [← hL] at hl hsz
  clear hP hL
  have HSZ : Hid ((mk l).size = L) := hsz
  clear hsz
  go_enter Try.func21, Try.ntmps21
  go_wp2
  go_loopg [3, 4, 5] (L + 1) (fun kx v f i wr => ∃ (I F g n c : Nat), I ≤ L + 1 ∧ L + 1 - I ≤ kx ∧ F ≤ L + 1 ∧ n ≤ L + 1 ∧ v = .slice (some ⟨g, 0, none⟩) n c ∧ n ≤ c ∧ c < 9223372036854775808 ∧ f = .int .i64 F ∧ i = .int .i64 I ∧ Hid (PcI l w I F g n c wr))
  case atStart => exact ⟨0, 0, w.heap.size, 0, 0, by omega, by omega, by omega, by omega, rfl, by omega, by omega, rfl, rfl, HS⟩
  case round =>
    obtain ⟨I, F, g, n, c, hI, hkx, hF, hn, rfl, hnc, hc63, rfl, rfl, HI⟩ := hrel
    clear HS
    have hsz := HSZ.out
    have hLl := HL.out
    by_cases hlt : I < L
    · have hlt' : I < l.length := by omega
      have hg := HG.out I hlt'
      by_cases h47 : l[I] = 47
      · have hFI : F ≤ I ∧ n ≤ F := by
          obtain ⟨done, h1, h2, h3, h4, h5, h6⟩ := HI.out
          rcases h6 with ⟨k1, k2, _⟩ | ⟨k1, _⟩ <;> omega
        obtain ⟨hFI, hnF⟩ := hFI
        obtain ⟨g', c', W, HA, HI2, hc1, hc2⟩ := HI.out.cut (by omega) (.inr (by rw [List.getElem?_eq_getElem hlt', h47])) (by omega)
        have hx := HE.out F I
        have hgx : ∀ h : I < (mk l).size, ((mk l)[I]'h).toNat = 47 := fun h => by rw [hg h]; exact congrArg UInt8.toNat h47
        have hI2 := tHid HI2
        have e1 : ((I : Nat) : Int) < (L : Int) := by omega
        have z3 : (F : Int) ≤ (I : Int) := by omega
        have z4 : (I : Int) ≤ ((mk l).size : Int) := by omega
        have z5 : I ≤ (mk l).size := by omega
        have z6 : I < (mk l).size := by omega
        have z7 : (mk l).size ≤ 1048576 := by omega
        have z8 : ¬ I = (mk l).size := by omega
        have z9 : ¬ (I : Int) = ((mk l).size : Int) := by omega
        have zl : (I : Int) ≤ ((mk l).size : Int) := by omega
        clear HI HFIN HE HG hg h47 hlt' hLl HI2 hsz HL HSZ
        obtain ⟨pc, hpc⟩ : ∃ pc, pc = mk ((l.take I).drop F) := ⟨_, rfl⟩
        rw [← hpc] at hx HA
        clear hpc
        generalize mk l = s at *
        go_wp2_with (first
          | (at_builtin; refine Lib.wpList_append_run _ rfl _ _ 38 38 rfl (.slice (some ⟨g, 0, none⟩) n c) (.slice (some ⟨wr.heap.size, 0, none⟩) 1 1) (by simp [Act.eval]) (by simp [Act.eval]) _ _ (HA.out _) ?_))
        go_roundg (L + 1 - (I + 1))
        case measure => omega
        case rel => exact ⟨I + 1, I + 1, g', n + 1, c', by omega, by omega, by omega, by omega, rfl, hc1, hc2, by first | rfl | (congr 1), by first | rfl | (congr 1), hI2⟩
      · have hI2 := tHid (HI.out.on hlt' h47)
        have hgx : ∀ h : I < (mk l).size, ((mk l)[I]'h).toNat = (l[I]'hlt').toNat := fun h => by rw [hg h]
        have h47' : ¬ ((l[I].toNat : Nat) : Int) = 47 := fun e => h47 (by
          have : l[I].toNat = 47 := by omega
          exact UInt8.toNat_inj.1 this)
        have z5 : I ≤ (mk l).size := by omega
        have z6 : I < (mk l).size := by omega
        have z7 : (mk l).size ≤ 1048576 := by omega
        have z8 : ¬ I = (mk l).size := by omega
        have z9 : ¬ (I : Int) = ((mk l).size : Int) := by omega
        have y1 : ((I : Int) == ((mk l).size : Int)) = false := beq_eq_false_iff_ne.2 z9
        have y2 : (((l[I].toNat : Nat) : Int) == 47) = false := beq_eq_false_iff_ne.2 h47'
        clear HI HFIN HE HG hg h47 hLl hsz HL HSZ
        generalize l[I].toNat = x at *
        generalize mk l = s at *
        go_wp2_with fail
        go_roundg (L + 1 - (I + 1))
        case measure => omega
        case rel => exact ⟨I + 1, F, g, n, c, by omega, by omega, by omega, by omega, rfl, hnc, hc63, rfl, by first | rfl | (congr 1), hI2⟩
    · by_cases hle : I = L
      · have hFI : F ≤ I ∧ n ≤ F := by
          obtain ⟨done, h1, h2, h3, h4, h5, h6⟩ := HI.out
          rcases h6 with ⟨k1, k2, _⟩ | ⟨k1, _⟩ <;> omega
        obtain ⟨hFI, hnF⟩ := hFI
        obtain ⟨g', c', W, HA, HI2, hc1, hc2⟩ := HI.out.cut (by omega) (.inl (by omega)) (by omega)
        have hx := HE.out F I
        have hI2 := tHid HI2
        have z3 : (F : Int) ≤ (I : Int) := by omega
        have z8 : I = (mk l).size := by omega
        have z7 : (mk l).size ≤ 1048576 := by omega
        clear HI HFIN HE HG hLl HI2 hsz HL HSZ
        obtain ⟨pc, hpc⟩ : ∃ pc, pc = mk ((l.take I).drop F) := ⟨_, rfl⟩
        rw [← hpc] at hx HA
        clear hpc
        generalize mk l = s at *
        subst z8
        have HLE := tHid hle
        clear hle
        go_wp2_with (first
          | (at_builtin; refine Lib.wpList_append_run _ rfl _ _ 38 38 rfl (.slice (some ⟨g, 0, none⟩) n c) (.slice (some ⟨wr.heap.size, 0, none⟩) 1 1) (by simp [Act.eval]) (by simp [Act.eval]) _ _ (HA.out _) ?_))
        go_roundg (L + 1 - (s.size + 1))
        case measure => have := HLE.out; omega
        case rel => have := HLE.out; exact ⟨s.size + 1, s.size + 1, g', n + 1, c', by omega, by omega, by omega, by omega, rfl, hc1, hc2, by first | rfl | (congr 1), by first | rfl | (congr 1), hI2⟩
      · have HF := tHid (HFIN.out I F g n c wr HI.out (by omega))
        have z8 : ¬ I ≤ (mk l).size := by omega
        have z9 : ¬ (I : Int) ≤ ((mk l).size : Int) := by omega
        have z7 : (mk l).size ≤ 1048576 := by omega
        clear HI HFIN HE HG hLl hsz HL HSZ hle
        generalize mk l = s at *
        go_wp2_with fail
        exact HF.out
end Go.Proofs.Ytoplhkpbicgceaa
