import Derived.Test.YtlfcgldbgejfbaaXxE
import Derived.Laws.CopyRow
namespace Go.Proofs.Ytlfcgldbgejfbaa
open Go.RowKit
set_option linter.unusedVariables false

/-! ### Laying bytes into the rest -/
def putr (rest : List By) (h : Nat) (p : List By) : List By := rest.take h ++ p ++ rest.drop (h + p.length)
theorem putr_length (rest : List By) (h : Nat) (p : List By) (hh : h + p.length ≤ rest.length) : (putr rest h p).length = rest.length := by
  simp [putr]; omega
theorem putr_take (rest : List By) (h : Nat) (p : List By) (hh : h + p.length ≤ rest.length) : (putr rest h p).take (h + p.length) = rest.take h ++ p := by
  unfold putr
  rw [List.take_append_of_le_length (by simp; omega), List.take_of_length_le (by simp; omega)]
theorem add_addr (g o j : Nat) : (⟨g, o, none⟩ : Addr).add j = ⟨g, o + j, none⟩ := by unfold Addr.add; split <;> simp_all
theorem info5 : (Try.prog.info? 5).map (·.size) = some 1 := by kernel_rfl
theorem copyd (T d tot : Nat) (rest : List By) (ext : List Value) (w : World) (h : DB T d tot rest ext w) (hr : rest.length = 32) (g o n : Nat) (l : List By) (hl : Rd g o l w) (hh : Nat) (k : Nat) (hk : hh + k ≤ 32) :
    ∃ W, (∀ ty c c', (Builtin.copy_ #[24, 24] ty #[.slice (some ⟨d, 1 + hh, none⟩) k c, .slice (some ⟨g, o, none⟩) l.length c']).run Try.prog w = .ok (goInt (min l.length k : Nat)) W) ∧ DB T d tot (putr rest hh (l.take k)) ext W ∧ Fr (fun i => i = d) w W := by
  have hcs : ((l.take k).map bv).length = Nat.min l.length k := by simp [Nat.min_comm]
  have hcs' : ((l.take k).map bv).length = min l.length k := hcs
  refine ⟨w.setRow d ((dcells tot rest ext).toArray.toList.take (1 + hh) ++ (l.take k).map bv ++ (dcells tot rest ext).toArray.toList.drop (1 + hh + ((l.take k).map bv).length)).toArray, ?_, ?_, (Fr.refl _ _).setRow _ _ (.inl rfl)⟩
  · intro ty c c'
    have := run_copy_row Try.prog w 24 24 ty 5 d (1 + hh) k c ⟨g, o, none⟩ l.length c' (dcells tot rest ext).toArray T ((l.take k).map bv) Try.underlying24 info5 h hcs ?_ ?_ ?_
    · rw [hcs'] at this
      rw [hcs']
      exact this
    · intro j v hv
      simp only [List.getElem?_map, Option.map_eq_some_iff] at hv
      obtain ⟨b, hb, rfl⟩ := hv
      rw [List.getElem?_take] at hb
      split at hb
      · rw [add_addr]; exact hl.at j b hb
      · cases hb
    · rw [hcs']
      simp only [List.size_toArray, dcells, List.length_cons, List.length_append, List.length_map, hr]
      omega
    · intro v hv
      simp only [List.mem_map] at hv
      obtain ⟨b, _, rfl⟩ := hv
      rfl
  · have hm : (l.take k).length ≤ k := by simp; omega
    have e : (dcells tot rest ext).toArray.toList.take (1 + hh) ++ (l.take k).map bv ++ (dcells tot rest ext).toArray.toList.drop (1 + hh + ((l.take k).map bv).length) = dcells tot (putr rest hh (l.take k)) ext := by
      generalize l.take k = p at hm ⊢
      simp only [dcells, putr, List.map_append, List.map_take, List.map_drop, List.length_map]
      rw [Nat.add_comm 1 hh, List.take_succ_cons, show hh + 1 + p.length = (hh + p.length) + 1 by omega, List.drop_succ_cons]
      rw [List.take_append_of_le_length (by simp; omega), List.drop_append_of_le_length (by simp; omega)]
      simp
    rw [e]
    exact setRow_heap w d _ _ T _ h
theorem copy_none (w : World) (ty : TypeId) (a : Addr) (dLen dCap : Nat) (b : Option Addr) : (Builtin.copy_ #[24, 24] ty #[.slice (some a) dLen dCap, .slice b 0 0]).run Try.prog w = .ok (goInt 0) w := by
  cases b with
  | none => exact run_copy_nil Try.prog w 24 24 ty 5 a dLen dCap Try.underlying24 (by rw [info5]; rfl)
  | some b =>
    cases hq : Try.prog.info? 5 with
    | none => have := info5; rw [hq] at this; cases this
    | some i =>
      have hl : (loadCells b 0).run Try.prog w = .ok #[] w := run_loadCells_list (P := Try.prog) w b [] (fun j v hj => by simp at hj)
      simp [Builtin.copy_, run_underlying Try.underlying24, Builtin.lenOf, Builtin.firstCells, sizeOf, typeInfo, hq, storeCells, hl]
theorem DB.setTot {T d tot : Nat} {rest : List By} {ext : List Value} {w : World} (h : DB T d tot rest ext w) (t : Nat) (z : Int) (hz : z = t) : DB T d t rest ext (w.setCell ⟨d, 0, none⟩ (.int .u64 z)) := by
  subst hz
  unfold DB at h ⊢
  simp only [World.setCell, Array.getElem?_modify, h]
  simp [dcells]

/-! ### What a digest becomes -/
structure Res {α : Type} (size : Nat) (f : α → List By → α) (x : α) (y : List By) (x' : α) (rest' : List By) : Prop where
  lanes : x' = foldc size f (y.length / size) x y
  rest : rest'.take (y.length % size) = y.drop (y.length / size * size)
theorem res_few {α : Type} (size : Nat) (f : α → List By → α) (x : α) (rest : List By) (h : Nat) (b : List By) (hr : rest.length = 32) (hs : size ≤ 32) (hh : h + b.length < size) : Res size f x (rest.take h ++ b) x (putr rest h b) := by
  have hl : (rest.take h ++ b).length = h + b.length := by simp; omega
  have hd : (h + b.length) / size = 0 := Nat.div_eq_of_lt hh
  refine ⟨by rw [hl, hd]; rfl, ?_⟩
  rw [hl, hd, Nat.mod_eq_of_lt hh, putr_take _ _ _ (by omega)]; simp
theorem res_none {α : Type} (size : Nat) (f : α → List By → α) (x : α) (rest : List By) (b : List By) (hr : rest.length = 32) (hs : size ≤ 32) (hs0 : 0 < size) : Res size f x (rest.take 0 ++ b) (foldc size f (b.length / size) x b) (putr rest 0 ((b.drop (b.length / size * size)).take size)) := by
  have hm := mod_split b.length size
  have hlt := Nat.mod_lt b.length hs0
  have hl : (b.drop (b.length / size * size)).length = b.length % size := by simp; omega
  have ht : (b.drop (b.length / size * size)).take size = b.drop (b.length / size * size) := List.take_of_length_le (by omega)
  refine ⟨by simp, ?_⟩
  rw [ht]
  have := putr_take rest 0 (b.drop (b.length / size * size)) (by omega)
  simp only [hl, Nat.zero_add, List.take_zero, List.nil_append] at this ⊢
  exact this
theorem res_more {α : Type} (size : Nat) (f : α → List By → α) (x : α) (rest rest' : List By) (h m : Nat) (b : List By) (hr : rest.length = 32) (hr' : rest'.length = 32) (hs : size ≤ 32) (hs0 : 0 < size) (hh : h + m = size) (hb : m ≤ b.length) :
    Res size f x (rest.take h ++ b) (foldc size f ((b.drop m).length / size) (f x (rest.take h ++ b.take m)) (b.drop m)) (putr rest' 0 (((b.drop m).drop ((b.drop m).length / size * size)).take size)) := by
  obtain ⟨h1, h2⟩ := res_none size f (f x (rest.take h ++ b.take m)) rest' (b.drop m) hr' hs hs0
  simp only [List.take_zero, List.nil_append] at h1 h2
  have hl : (rest.take h ++ b).length = (b.drop m).length + size := by simp; omega
  have hd : (rest.take h ++ b).length / size = (b.drop m).length / size + 1 := by rw [hl, Nat.add_div_right _ hs0]
  have he : rest.take h ++ b = (rest.take h ++ b.take m) ++ b.drop m := by rw [List.append_assoc, List.take_append_drop]
  have hpl : (rest.take h ++ b.take m).length = size := by simp; omega
  refine ⟨?_, ?_⟩
  · rw [hd, he, Nat.add_comm, foldc_app size f 1 _ x _ _ (by omega)]
    show _ = foldc size f _ (f x ((rest.take h ++ b.take m).take size)) _
    rw [List.take_of_length_le (l := rest.take h ++ b.take m) (Nat.le_of_eq hpl)]
  · rw [hd, hl, Nat.add_mod_right, h2, he, Nat.add_mul, Nat.one_mul, Nat.add_comm, ← List.drop_drop, List.drop_append_of_le_length (by omega), List.drop_of_length_le (by omega : (rest.take h ++ b.take m).length ≤ size), List.nil_append]
end Go.Proofs.Ytlfcgldbgejfbaa
