import Derived.Test.YtcogkhcfpgelhabGreatWxaj
import Derived.Shelf.GgSortFunc.InsertionK
import Derived.Test.YtcogkhcfpgelhabGreatVhS
namespace Go.Proofs.YtcogkhcfpgelhabGreat
open Go.RowKit
set_option linter.unusedVariables false
set_option maxRecDepth 100000
variable {α : Type} {R : RT α} {w w' : World} {g c : Nat} {l : List α}
theorem enc_bang (hR : R.Ok) (x : α) (j : Nat) (hj : j < R.k) : (R.enc x)[j]? = some ((R.enc x)[j]!) := by
  have : j < (R.enc x).length := by rw [hR.len]; exact hj
  rw [List.getElem?_eq_getElem this, getElem!_pos _ j this]
variable [Inhabited α]
theorem flatK_at (hR : R.Ok) (d : Array α) (t : Nat) (ht : t < d.size * R.k) : (flatR R d.toList)[t]? = some ((Go.Sort.flatK R.enc R.k d)[t]!) := by
  have hk := hR.kp
  have hi : t / R.k < d.size := Nat.div_lt_of_lt_mul (by rw [Nat.mul_comm]; exact ht)
  have hj : t % R.k < R.k := Nat.mod_lt _ hk
  have e1 : t = t / R.k * R.k + t % R.k := by rw [Nat.mul_comm]; exact (Nat.div_add_mod t R.k).symm
  rw [Go.Sort.get_flatK _ _ _ _ ht]
  have := flatR_at hR d.toList (t / R.k) (t % R.k) d[t / R.k]! _ (by rw [Array.getElem?_toList, Array.getElem?_eq_getElem hi, getElem!_pos d (t / R.k) hi]) (enc_bang hR _ _ hj)
  rw [← e1] at this
  exact this
/-- A row that the library's sort may take. -/
theorem own_holds (hR : R.Ok) (hO : OwR R g (.slice (some ⟨g, 0, none⟩) l.length c) l w) : Go.Sort.HoldsK R.enc R.k w g 0 l.toArray := by
  intro t ht
  rw [Go.Sort.size_flatK] at ht
  have hk := hR.kp
  have hl : l.toArray.size = l.length := by simp
  have hi : t / R.k < l.length := Nat.div_lt_of_lt_mul (by rw [Nat.mul_comm, ← hl]; exact ht)
  have hj : t % R.k < R.k := Nat.mod_lt _ hk
  have e1 : t = t / R.k * R.k + t % R.k := by rw [Nat.mul_comm]; exact (Nat.div_add_mod t R.k).symm
  have := hO.cell hR (t / R.k) (t % R.k) l.toArray[t / R.k]! _ (by rw [List.getElem?_eq_getElem hi, getElem!_pos _ _ (by rw [hl]; exact hi)]; simp) (enc_bang hR _ _ hj)
  rw [← e1] at this
  rw [Nat.zero_add, Go.Sort.get_flatK _ _ _ _ ht]
  exact this
/-- .. and how it lies behind the sort. -/
theorem own_sorted (hR : R.Ok) (hO : OwR R g (.slice (some ⟨g, 0, none⟩) l.length c) l w) (d : Array α) (hd : d.size = l.length) (n : Nat) (os : Array Obj) : OwR R g (.slice (some ⟨g, 0, none⟩) l.length c) d.toList (Go.Proofs.sortWorldK R.enc R.k w g 0 n d os) ∧ Fr (fun k => k = g) w (Go.Proofs.sortWorldK R.enc R.k w g 0 n d os) := by
  obtain ⟨xs, h1, h2, h3, h4, h5⟩ := hO
  have hgl := h5.lt
  have hsz : (Sort.putRow id (Sort.ahead w n) g 0 (Go.Sort.flatK R.enc R.k d)).heap.size = w.heap.size := by simp [Sort.putRow, Sort.mapBlock, Sort.ahead]
  have hF : ∀ k, k < w.heap.size → k ≠ g → (Go.Proofs.sortWorldK R.enc R.k w g 0 n d os).heap[k]? = w.heap[k]? := fun k hk hne => by
    unfold Go.Proofs.sortWorldK Go.Sort.putRowK
    rw [Sort.heap_grow_old _ _ (by rw [hsz]; exact hk)]
    simp [Sort.putRow, Sort.mapBlock, Sort.ahead, Array.getElem?_modify]
    intro e; exact absurd e.symm hne
  have hG : (Go.Proofs.sortWorldK R.enc R.k w g 0 n d os).heap[g]? = some (.cells (flatR R (d.toList ++ xs.drop l.length)).toArray R.T) := by
    unfold Go.Proofs.sortWorldK Go.Sort.putRowK
    rw [Sort.heap_grow_old _ _ (by rw [hsz]; exact hgl)]
    have h5' : w.heap[g]? = some (.cells (flatR R xs).toArray R.T) := h5
    simp only [Sort.putRow, Sort.mapBlock, Sort.ahead, Array.getElem?_modify, if_true, h5', Option.map_some, Sort.onCells]
    congr 2
    apply Array.ext_getElem?
    intro t
    unfold Sort.putCells
    rw [Array.getElem?_mapIdx, List.getElem?_toArray, List.getElem?_toArray, flatR_append, Go.Sort.size_flatK, Nat.zero_add]
    have hfl : (flatR R d.toList).length = d.size * R.k := by rw [flatR_length hR]; simp
    have hxl := flatR_length hR xs
    by_cases ht : t < d.size * R.k
    · rw [List.getElem?_append_left (by rw [hfl]; exact ht), flatK_at hR d t ht]
      have : t < (flatR R xs).length := by
        rw [hxl]
        exact Nat.lt_of_lt_of_le ht (Nat.mul_le_mul_right _ (by omega))
      rw [List.getElem?_eq_getElem this]
      simp [ht]
    · rw [List.getElem?_append_right (by rw [hfl]; omega), hfl, ← flatR_drop hR xs l.length h3, List.getElem?_drop, ← hd, Nat.add_sub_cancel' (by omega)]
      cases (flatR R xs)[t]? with
      | none => rfl
      | some v => simp [ht]
  refine ⟨⟨d.toList ++ xs.drop l.length, ?_, ?_, ?_, ?_, hG⟩, ⟨rfl, rfl, rfl, ?_, hF⟩⟩
  · have e1 : (d.toList ++ xs.drop l.length).length = xs.length := by simp; omega
    rw [e1]
    have e2 : d.toList.length = l.length := by simp [hd]
    rw [e2]; exact h1
  · rw [List.take_left]
  · simp
  · simp; omega
  · unfold Go.Proofs.sortWorldK Go.Sort.putRowK
    rw [Sort.size_grow, hsz]; omega
end Go.Proofs.YtcogkhcfpgelhabGreat

namespace Go.Proofs.YtcogkhcfpgelhabGreat
open Go.RowKit
set_option linter.unusedVariables false
set_option maxRecDepth 100000
variable {w w' : World}
set_option maxHeartbeats 2000000 in
theorem insN_none (fv : Value) (w : World) : Calls Tryz.prog 104 #[.slice none 0 0, .int .i64 0, .int .i64 0, fv] w fun e w' => e = .returned (.tuple #[]) ∧ w = w' := by
  go_enter Tryz.func104, Tryz.ntmps104
  go_wp2
  refine wp_loop_rounds 1 ?_
  rw [rounds_succ]
  go_wp2
  go_end0
  exact ⟨rfl, rfl⟩
set_option maxHeartbeats 2000000 in
theorem pdqN_none (lim : Int) (fv : Value) (w : World) : Calls Tryz.prog 83 #[.slice none 0 0, .int .i64 0, .int .i64 0, .int .i64 lim, fv] w fun e w' => e = .returned (.tuple #[]) ∧ w = w' := by
  have HC := tHid (insN_none fv w)
  go_enter Tryz.func83, Tryz.ntmps83
  go_wp2
  refine wp_loop_rounds 1 ?_
  rw [rounds_succ]
  go_wp2_with (first | (go_at_call 104; with_reducible refine HC.out.mono ?_; rintro e w2 ⟨rfl, rfl⟩))
  (try simp only [Exit.inBlock, Exit.then])
  refine bodyPost_ret (results_none rfl _ _ _) rfl ?_
  exact ⟨rfl, rfl⟩
theorem bLen_none (w : World) : Calls Tryz.prog 82 #[.int .u64 0] w fun e w' => e = .returned (.int .i64 (Lib.bitLen 0 : Nat)) ∧ w' = w :=
  Any.bits_Len (SlLaysF0.n15.bits (P := Tryz.prog) (ρ := laySortN_ren) { laySortN with }) 0 w (by omega) (by omega)
set_option maxHeartbeats 2000000 in
theorem sortN_none (fv : Value) (w : World) : Calls Tryz.prog 67 #[.slice none 0 0, fv] w fun e w' => e = .returned (.tuple #[]) ∧ w = w' := by
  have HL := tHid (bLen_none w)
  generalize ((Lib.bitLen 0 : Nat) : Int) = lim at *
  have HP := tHid (pdqN_none lim fv w)
  go_enter Tryz.func67, Tryz.ntmps67
  go_wp2_with (first
    | (go_at_call 82; with_reducible refine HL.out.mono ?_; rintro e w2 ⟨rfl, rfl⟩)
    | (go_at_call 83; with_reducible refine HP.out.mono ?_; rintro e w3 ⟨rfl, rfl⟩))
  go_end0
  exact ⟨rfl, rfl⟩
/-- The order is one. -/
theorem cmpN_swo : Sort.SWO (ltOf fun x y : Tx × Int => Lib.compareBytes x.1 y.1) := by
  have e : ∀ x y : Tx × Int, ltOf (fun x y : Tx × Int => Lib.compareBytes x.1 y.1) x y = lt x.1 y.1 := fun x y => by
    unfold ltOf
    by_cases h : lt x.1 y.1 = true
    · rw [h]; exact decide_eq_true ((cmpb_lt _ _).2 h)
    · rw [Bool.not_eq_true] at h
      rw [h]
      exact decide_eq_false (fun hh => by rw [(cmpb_lt _ _).1 hh] at h; cases h)
  refine ⟨fun x => ?_, fun x y z h1 h2 => ?_, fun x y z h1 h2 => ?_⟩
  · rw [e]; exact lt_irrefl _
  · rw [e] at *; exact lt_trans h1 h2
  · rw [e] at *
    rcases lt_tri x.1 y.1 with a | a | a
    · rw [a] at h1; cases h1
    · rw [a]; exact h2
    · rcases lt_tri y.1 z.1 with b | b | b
      · rw [b] at h2; cases h2
      · rw [← b]; exact lt_asymm a
      · exact lt_asymm (lt_trans b a)
theorem ltN_eq (x y : Tx × Int) : ltOf (fun x y : Tx × Int => Lib.compareBytes x.1 y.1) x y = lt x.1 y.1 := by
  unfold ltOf
  by_cases h : lt x.1 y.1 = true
  · rw [h]; exact decide_eq_true ((cmpb_lt _ _).2 h)
  · rw [Bool.not_eq_true] at h
    rw [h]
    exact decide_eq_false (fun hh => by rw [(cmpb_lt _ _).1 hh] at h; cases h)
theorem sort_any : SortC := by
  intro W og a c l hO hl
  cases og with
  | none =>
    obtain ⟨e1, e2⟩ := hO
    subst e2
    injection e1 with e1 _ e3
    subst e1 e3
    refine Calls.mono (sortN_none _ W) ?_
    rintro e w' ⟨rfl, rfl⟩
    exact ⟨rfl, [], List.Perm.refl _, List.Pairwise.nil, ⟨rfl, rfl⟩, Fr.refl _ _⟩
  | some g =>
    have hO' : OwR RNm g (.slice a l.length c) l W := hO
    obtain ⟨c9, e1, _, _⟩ := hO'.form
    injection e1 with e1
    subst e1
    have eg : ∀ args w, (callFunc 68 args).run Tryz.prog w = .ok (.enter 68 args) w := enters_of Tryz.func68 (by kernel_rfl) rfl
    have hc : CmpLays Tryz.prog 68 #[] RNm.enc 2 (fun x y => Lib.compareBytes x.1 y.1) g 0 l.toArray.size W := fun m os dk hd x y => cmpN_any x y _
    have key := AnyQ.slices_SortFunc laySortN 2 Tryz.isAgg57 Tryz.sizeOf57 RNm.enc (fun _ => rfl) rnmOk.one (fun x y => Lib.compareBytes x.1 y.1) cmpN_swo 68 #[] g 0 c l.toArray W eg hc (own_holds rnmOk hO') hO'.lt (by simp; omega)
    have hsz : l.toArray.size = l.length := by simp
    rw [hsz] at key
    refine Calls.mono key ?_
    rintro e w' ⟨rfl, d', n, os, hp, hs, rfl⟩
    obtain ⟨p1, p2, p3⟩ := hp
    have hd : d'.size = l.length := by rw [p1]; simp
    obtain ⟨o1, o2⟩ := own_sorted rnmOk hO' d' hd n os
    refine ⟨rfl, d'.toList, ?_, ?_, o1, o2.mono (fun i e => .inl (by rw [e]))⟩
    · have e2 : d'.extract 0 l.length = d' := by rw [← hd]; simp
      have e3 : l.toArray.extract 0 l.length = l.toArray := by simp
      rw [e2, e3] at p3
      simpa using p3
    · rw [List.pairwise_iff_getElem]
      intro i j hi hj hij
      have hi' : i < d'.size := by simpa using hi
      have hj' : j < d'.size := by simpa using hj
      have := hs i j (Nat.zero_le _) hij (by omega)
      rw [ltN_eq, getElem!_pos d' i hi', getElem!_pos d' j hj'] at this
      simpa using this
end Go.Proofs.YtcogkhcfpgelhabGreat
