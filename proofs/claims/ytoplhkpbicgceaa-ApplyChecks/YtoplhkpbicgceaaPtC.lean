import Derived.Test.YtoplhkpbicgceaaGnA
import Derived.Test.YtoplhkpbicgceaaPtB
import Derived.Laws.Strings
namespace Go.Proofs.Ytoplhkpbicgceaa
open Go.RowKit
set_option linter.unusedVariables false
/-! ### Lists of texts in memory -/
def mk (l : Tx) : ByteArray := ⟨l.toArray⟩
theorem mk_toList (l : Tx) : (mk l).toList = l := by rw [ByteArray.toList_eq]; rfl
theorem mk_data (l : Tx) : (mk l).data.toList = l := rfl
theorem mk_size (l : Tx) : (mk l).size = l.length := by
  show (mk l).data.size = _
  simp [mk]
theorem mk_inj {l m : Tx} : mk l = mk m ↔ l = m := by
  constructor
  · intro h
    have := congrArg (fun s => s.data.toList) h
    exact this
  · rintro rfl; rfl
theorem mk_of (s : ByteArray) : ∃ l, s = mk l := ⟨s.data.toList, by cases s; rfl⟩
theorem mk_eq (l m : Tx) : ((mk l).toList == (mk m).toList) = decide (l = m) := by
  rw [mk_toList, mk_toList]
  by_cases h : l = m
  · subst h; simp
  · rw [decide_eq_false h, beq_eq_false_iff_ne]; exact h
def RS : RT Tx := { enc := fun x => [.string (mk x)], k := 1, T := 9, TS := 38, z := [], by_ := 16 }
theorem rsOk : RS.Ok := by
  refine ⟨fun _ => rfl, by decide, fun x v hv => ?_, Try.underlying38, ?_⟩
  · simp only [RS, List.mem_cons, List.mem_nil_iff, or_false] at hv
    subst hv; rfl
  · have h : (Try.prog.info? 9).map (fun i => (i.zero, i.size, i.bytes)) = some (some (.string (mk [])), 1, 16) := by kernel_rfl
    cases hq : Try.prog.info? 9 with
    | none => simp [hq] at h
    | some i => simp [hq] at h; exact ⟨i, _, hq, h.1, h.2.1, h.2.2, rfl⟩
theorem rs_at {X : Nat → Prop} {a : Option Addr} {n c : Nat} {l : List Tx} {w : World} (h : SlR RS X (.slice a n c) l w) (i : Nat) (hx : i < l.length) : ∃ g o, a = some ⟨g, o, none⟩ ∧ ¬ X g ∧ w.cell? ⟨g, o + i, none⟩ = some (.string (mk l[i])) := by
  obtain ⟨g, o, e, hg, hc⟩ := h.at i l[i] (List.getElem?_eq_getElem hx)
  have := hc 0 _ rfl
  simp only [RS, Nat.mul_one, Nat.add_zero] at this
  exact ⟨g, o, e, hg, this⟩
theorem eqT_upto (l m : List Tx) (k : Nat) (h : l.length = m.length) (hk : k ≤ l.length) (he : ∀ j, j < k → l[j]? = m[j]?) (hd : k = l.length) : l = m := by
  apply List.ext_getElem?
  intro i
  by_cases hi : i < k
  · exact he i hi
  · rw [List.getElem?_eq_none (by omega), List.getElem?_eq_none (by omega)]
end Go.Proofs.Ytoplhkpbicgceaa
