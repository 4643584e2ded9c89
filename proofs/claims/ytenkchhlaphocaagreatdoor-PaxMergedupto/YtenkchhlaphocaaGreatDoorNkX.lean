import Derived.Test.YtenkchhlaphocaaGreatDoorNkW
import Derived.Test.YtenkchhlaphocaaGreatDoorNkY
namespace Go.Proofs.YtenkchhlaphocaaGreatDoor
open Go.RowKit Go.ChangeMaps Go.MapKept
set_option linter.unusedVariables false
set_option maxRecDepth 100000
/-! ### The keys of the map of pairs, in their order -/
theorem coverP {α : Type} [DecidableEq α] : ∀ (l1 l2 : List α), l1.Nodup → (∀ x ∈ l1, x ∈ l2) → l2.length ≤ l1.length → ∀ x ∈ l2, x ∈ l1
  | [], l2, _, _, h, x, hx => by
    have : l2 = [] := List.eq_nil_of_length_eq_zero (by simpa using h)
    rw [this] at hx; cases hx
  | a :: t, l2, hn, hs, h, x, hx => by
    have ha : a ∈ l2 := hs a (by simp)
    obtain ⟨hat, hn⟩ := List.nodup_cons.1 hn
    by_cases hxa : x = a
    · rw [hxa]; simp
    · refine List.mem_cons_of_mem _ (coverP t (l2.erase a) hn (fun y hy => ?_) ?_ x ?_)
      · exact (List.mem_erase_of_ne (by rintro rfl; exact hat hy)).2 (hs y (List.mem_cons_of_mem _ hy))
      · rw [List.length_erase_of_mem ha]; simp only [List.length_cons] at h; omega
      · exact (List.mem_erase_of_ne hxa).2 hx
theorem mpL_cov {mb : Nat} {l : List Pr} {w : World} (h : MpL mb l w) (hk : ∀ x ∈ l, x.1.length ≤ 140737488351232) : ∃ D : DataW Unit, w.ownsMap Tryz.prog 9 Rpr mb (dk l).length D ∧ Maps.size D = (dk l).length ∧ (∀ kl, Maps.has D kl = true ↔ ∃ k ∈ dk l, Lit.string (str k).toList = kl) := by
  obtain ⟨D, h1, h2, h3⟩ := h
  have hok : ∀ k ∈ dk l, k.length ≤ 140737488351232 := fun k hkd => by
    obtain ⟨x, hx, rfl⟩ := mem_key l k hkd
    exact hk x hx
  have hin : ∀ k ∈ dk l, Maps.has D (.string (str k).toList) = true := fun k hkd => by
    have := h3 k (hok k hkd)
    rw [dk_mem, Option.isSome_iff_exists] at hkd
    obtain ⟨v, hv⟩ := hkd
    have e : mpV l k = some (k, v) := by unfold mpV; rw [hv]; rfl
    rw [e] at this
    exact this.2.1
  refine ⟨D, h1, h2, fun kl => ⟨fun hkl => ?_, fun ⟨x, hx, e⟩ => by rw [← e]; exact hin x hx⟩⟩
  obtain ⟨E, rfl, hp, hkE⟩ := h1.entries mpOk.keyed
  obtain ⟨p, hpE, hpk⟩ := List.any_eq_true.1 hkl
  have hpe := WideAt.sameKey_eq hpk
  haveI : DecidableEq Lit := fun a c => Classical.propDecidable (a = c)
  have hc := coverP ((dk l).map (fun k => Lit.string (str k).toList)) (E.map Prod.fst) ?_ ?_ ?_ p.1 (List.mem_map.2 ⟨p, hpE, rfl⟩)
  · obtain ⟨x, hx, e⟩ := List.mem_map.1 hc
    exact ⟨x, hx, e.trans hpe⟩
  · have := dk_nodup l
    rw [List.nodup_iff_pairwise_ne] at this ⊢
    rw [List.pairwise_map]
    exact this.imp (fun {x y} hne e => hne (strL_inj (by injection e)))
  · intro kl2 hk2
    obtain ⟨x, hx, rfl⟩ := List.mem_map.1 hk2
    obtain ⟨p2, hp2, hpk2⟩ := List.any_eq_true.1 (hin x hx)
    exact List.mem_map.2 ⟨p2, hp2, WideAt.sameKey_eq hpk2⟩
  · have : E.length = (dk l).length := h2
    simp only [List.length_map]; rw [this]; exact Nat.le_refl _
theorem keysP_call (mo : Option Nat) (w : World) : Calls Tryz.prog 15 #[.map mo] w fun e w' => e = .returned (.func (.func 31) #[] #[.pointer (some ⟨w.heap.size, 0, none⟩)]) ∧ w.alloc (.cells #[.map mo] 42) = w' := by
  refine (callsIn_wide (n := 5)).1 ?_
  refine (AnyZ.keys_in layKeysA Fence.wide 5 trivial rfl mo w).mono ?_
  rintro e w' ⟨rfl, rfl⟩
  exact ⟨rfl, rfl⟩
theorem sortsP (k : Nat) : AnyZ.SortsIn Tryz.prog laySortedA_ren Fence.wide k :=
  ⟨fun blk off cap ss W hH hblk hsz => callsIn_wide.2 (AnyM.slices_Sort_string laySortA blk off cap ss W hH hblk hsz),
   fun p cap W => callsIn_wide.2 (AnyM.slices_Sort_string_none laySortA p cap W)⟩
/-- Keys in a row of one's own, rising: all of l's. -/
def KsP (w : World) (l : List Pr) (e : Ending) (w' : World) : Prop := ∃ (sk : List Bs) (a : Option Addr) (c : Nat), e = .returned (.slice a sk.length c) ∧ sk.length ≤ c ∧ c < 9223372036854775808 ∧ Nw w w' ∧ sk.Pairwise (fun x y => (str x).toList < (str y).toList) ∧ (∀ k, k ∈ sk ↔ k ∈ dk l) ∧ sk.length ≤ l.length ∧
  (∀ i (hi : i < sk.length), ∃ g, a = some ⟨g, 0, none⟩ ∧ w.heap.size ≤ g ∧ w'.cell? ⟨g, i, none⟩ = some (.string (str sk[i])))
theorem sortedP_call {mb : Nat} {l : List Pr} {w : World} (h : MpL mb l w) (hk : ∀ x ∈ l, x.1.length ≤ 140737488351232) (hn : l.length ≤ 1000000000) :
    Calls Tryz.prog 14 #[.func (.func 31) #[] #[.pointer (some ⟨w.heap.size, 0, none⟩)]] (w.alloc (.cells #[.map (some mb)] 42)) (KsP w l) := by
  obtain ⟨D, h1, h2, h3⟩ := mpL_cov h hk
  have hdl := dk_le l
  have hbl := h1.lt
  refine (callsIn_wide (n := 5)).1 ?_
  have hseq : SeqGives Fence.wide 2 Tryz.prog 31 #[.pointer (some ⟨w.heap.size, 0, none⟩)] encStr (fun ss => ss.Perm (strKeys D)) (Maps.size D) (w.alloc (.cells #[.map (some mb)] 42)) :=
    AnyZ.keys_gives (ρ := layKeysA_ren) { layKeysA with } Fence.wide _ trivial rfl (by omega) w.heap.size mb (dk l).length D _ (by simp) (by simp) (by
      obtain ⟨E, clock, hb, Ft, hs, hD⟩ := h1
      exact ⟨E, clock, (Below.heap_alloc _ _ mb hbl).trans hb, Ft, hs, hD⟩)
  have cS := AnyZ.sorted_in laySortedA Fence.wide 5 trivial trivial trivial trivial rfl (by omega) (sortsP _) (enters_of Tryz.func30 (by kernel_rfl) rfl) 31 #[.pointer (some ⟨w.heap.size, 0, none⟩)] trivial (enters_of Tryz.func31 (by kernel_rfl) rfl) _ _ (by rw [h2]; unfold maxLen; omega) (by rw [h2]; omega) _ hseq
  refine cS.mono ?_
  rintro e w' ⟨v, ss, rfl, hS, hrow, hnil, hb⟩
  obtain ⟨E, rfl, hp, hkE⟩ := h1.entries mpOk.keyed
  have hkl : ∀ p ∈ E, ∃ x, p.1 = .string x := fun p hp' => by
    obtain ⟨x, hx, e⟩ := (h3 p.1).1 (List.any_eq_true.2 ⟨p, hp', WideAt.sameKey_self (hkE p hp')⟩)
    exact ⟨_, e.symm⟩
  have hnd : ((dk l).map (fun k => (str k).toList)).Nodup := by
    have := dk_nodup l
    rw [List.nodup_iff_pairwise_ne] at this ⊢
    rw [List.pairwise_map]
    exact this.imp (fun {x y} hne e => hne (strL_inj e))
  have hperm : ((dk l).map (fun k => (str k).toList)).Perm (strKeys (.map E)) := by
    refine perm_strKeys hp hkl hnd (fun x => ?_)
    rw [h3]
    constructor
    · intro hx
      obtain ⟨y, hy, rfl⟩ := List.mem_map.1 hx
      exact ⟨y, hy, rfl⟩
    · rintro ⟨y, hy, e⟩
      injection e with e
      exact List.mem_map.2 ⟨y, hy, e⟩
  obtain ⟨ks, hks⟩ : ∃ ks, ss.mergeSort (fun x y => decide (x ≤ y)) = ks := ⟨_, rfl⟩
  have hkp : ks.Perm ((dk l).map (fun k => (str k).toList)) := hks ▸ (List.mergeSort_perm _ _).trans (hS.trans hperm.symm)
  have hle : ks.Pairwise (fun x y => x ≤ y) := by
    rw [← hks]
    exact (List.pairwise_mergeSort (fun a b c h1 h2 => by simp at *; exact List.le_trans h1 h2) (fun a b => by simp; exact List.le_total a b) ss).imp (fun {x y} h => by simpa using h)
  have hlt : ks.Pairwise (fun x y => x < y) := by
    have hn2 := hkp.symm.nodup hnd
    rw [List.nodup_iff_pairwise_ne] at hn2
    exact (hle.and hn2).imp (fun {x y} ⟨h1, h2⟩ => by
      by_cases h3 : x < y
      · exact h3
      · exact absurd (List.le_antisymm h1 (List.not_lt.1 h3)) h2)
  rw [hks] at hrow
  have hl : ss.length = ks.length := by rw [← hks, List.length_mergeSort]
  have hlk : ks.length = (dk l).length := by rw [hkp.length_eq, List.length_map]
  have hN : Nw w w' := ⟨hb.os, hb.tape, hb.output, by have := hb.size; simp at this; omega, fun k hk _ => (hb.block k (by simp; omega)).trans ((Below.heap_alloc _ _ k hk))⟩
  obtain ⟨sk, hsk⟩ : ∃ sk : List Bs, sk.map (fun k => (str k).toList) = ks := ⟨ks.map (fun x => bys ⟨x.toArray⟩), by
    rw [List.map_map]
    conv => rhs; rw [← List.map_id ks]
    apply List.map_congr_left
    intro x _
    simp only [Function.comp, id]
    rw [str_bys, ByteArray.toList_eq]⟩
  have hsl : sk.length = ks.length := by rw [← hsk, List.length_map]
  have hrise : sk.Pairwise (fun x y => (str x).toList < (str y).toList) := by
    rw [← hsk, List.pairwise_map] at hlt
    exact hlt
  have hmem : ∀ k, k ∈ sk ↔ k ∈ dk l := fun k => by
    constructor
    · intro hk1
      have : (str k).toList ∈ ks := by rw [← hsk]; exact List.mem_map.2 ⟨k, hk1, rfl⟩
      obtain ⟨y, hy, e⟩ := List.mem_map.1 (hkp.mem_iff.1 this)
      rw [← strL_inj e]; exact hy
    · intro hk1
      have : (str k).toList ∈ ks := hkp.mem_iff.2 (List.mem_map.2 ⟨k, hk1, rfl⟩)
      rw [← hsk] at this
      obtain ⟨y, hy, e⟩ := List.mem_map.1 this
      rw [← strL_inj e]; exact hy
  rcases hrow.2 with ⟨rfl, hz⟩ | ⟨g, cap, cur, rfl, g1, g2, g3, g4, g5, g6⟩
  · have hz' : sk.length = 0 := by omega
    exact ⟨sk, none, 0, by rw [hz'], by omega, by omega, hN, hrise, hmem, by omega, fun i hi => by omega⟩
  · rw [hl, ← hsl] at g3 g6 ⊢
    refine ⟨sk, some ⟨g, 0, none⟩, cap, rfl, g3, by unfold maxLen at g4; omega, hN, hrise, hmem, by omega, fun i hi => ⟨g, rfl, by simp at g1; omega, ?_⟩⟩
    have : (cur.toList.take (sk.length * 1))[i]? = (ks.map encStr)[i]? := by rw [g6]
    rw [List.getElem?_take, if_pos (by omega), List.getElem?_map, ← hsk, List.getElem?_map, List.getElem?_eq_getElem hi] at this
    unfold World.cell?
    rw [g2]
    simpa [encStr, ByteArray.toList_eq] using this
end Go.Proofs.YtenkchhlaphocaaGreatDoor
