import Derived.Test.YtoegbaenheeogaaLzB
import Derived.Laws.IdiomStrings
import Derived.Laws.Concat
namespace Go.Proofs.Ytoegbaenheeogaa
open Go.RowKit
set_option linter.unusedVariables false
/-! ### Bytes as a string -/
def u8 (b : By) : UInt8 := UInt8.ofNat b.toNat
theorem u8_nat (b : By) : (u8 b).toNat = b.toNat := by
  have := b.isLt
  simp [u8]
def str (l : List By) : ByteArray := ⟨(l.map u8).toArray⟩
theorem u8_inj (b c : By) (h : u8 b = u8 c) : b = c := by
  have := congrArg UInt8.toNat h
  rw [u8_nat, u8_nat] at this
  exact BitVec.eq_of_toNat_eq this
theorem map_inj {l m : List By} (h : l.map u8 = m.map u8) : l = m := by
  induction l generalizing m with
  | nil => cases m with
    | nil => rfl
    | cons x r => simp at h
  | cons x r ih => cases m with
    | nil => simp at h
    | cons y s => simp only [List.map_cons, List.cons.injEq] at h; rw [u8_inj x y h.1, ih h.2]
theorem str_inj {l m : List By} : str l = str m ↔ l = m := by
  constructor
  · intro h
    have h1 := congrArg ByteArray.data h
    have h2 : (l.map u8) = (m.map u8) := by simpa [str] using h1
    exact map_inj h2
  · intro h; rw [h]
theorem str_app (l m : List By) : str l ++ str m = str (l ++ m) := by
  apply ByteArray.ext
  simp [str]
theorem str_size (l : List By) : (str l).size = l.length := by
  show (str l).data.size = _
  simp [str]
theorem conv_any {X : Nat → Prop} {v : Value} {l : List By} {w : World} (h : Sl X v l w) : (convert 52 9 v).run Try.prog w = .ok (.string (str l)) w := by
  have key : ∀ (g o c : Nat), Rd g o l w → (convert 52 9 (.slice (some ⟨g, o, none⟩) l.length c)).run Try.prog w = .ok (.string (str l)) w := by
    intro g o c hr
    have := run_convert_bytes_back (P := Try.prog) w 52 9 5 ⟨g, o, none⟩ c (l.map u8) Try.underlying52 Try.underlying5 Try.underlying9 (fun j hj => by
      have hj' : j < l.length := by simpa using hj
      rw [add_addr, hr j hj']
      simp [u8_nat])
    rw [List.length_map] at this
    exact this
  rcases h with ⟨a, rfl, rfl⟩ | ⟨g, _, o, c, rfl, h1, h2, h3⟩
  · cases a with
    | none =>
      rw [run_convert_bytes_string w 52 9 5 none 0 0 Try.underlying52 Try.underlying5 Try.underlying9]
      simp [Conv.bytesToString, str, Sem.run_pure]
      rfl
    | some a =>
      exact run_convert_bytes_back (P := Try.prog) w 52 9 5 a 0 [] Try.underlying52 Try.underlying5 Try.underlying9 (fun j hj => by simp at hj)
  · exact key g o c h3
theorem one_two_three (w : World) : Sl (fun _ => False) (.slice (some ⟨w.heap.size, 0, none⟩) 3 3) [1#8, 2#8, 3#8] (w.alloc (.cells #[.int .u8 1, .int .u8 2, .int .u8 3] 5)) := by
  have hb : Bw w.heap.size [1#8, 2#8, 3#8] (w.alloc (.cells #[.int .u8 1, .int .u8 2, .int .u8 3] 5)) := by
    show (w.heap.push _)[w.heap.size]? = _
    simp
  exact .inr ⟨_, fun h => h, Ow.slb ⟨[1#8, 2#8, 3#8], rfl, rfl, by decide, by decide, hb⟩⟩
end Go.Proofs.Ytoegbaenheeogaa
