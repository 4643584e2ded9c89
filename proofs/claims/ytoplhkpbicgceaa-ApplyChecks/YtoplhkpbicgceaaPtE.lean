import Derived.Test.YtoplhkpbicgceaaPtD
import Derived.Lib.AppendZeros
namespace Go.Proofs.Ytoplhkpbicgceaa
open Go.RowKit
set_option linter.unusedVariables false
abbrev OldS (w : World) (v : Value) (l : List Tx) : Prop := SlR RS (fun k => w.heap.size ≤ k) v l w
theorem SlR.any {X : Nat → Prop} {v : Value} {l : List Tx} {w : World} (h : SlR RS X v l w) : SlR RS (fun _ => False) v l w := h.mono (fun _ h => h.elim)
theorem OwR.anyS {g : Nat} {v : Value} {l : List Tx} {w : World} (h : OwR RS g v l w) : SlR RS (fun _ => False) v l w := (h.slr rsOk).any
theorem OwR.oldS {g : Nat} {v : Value} {l : List Tx} {w : World} (h : OwR RS g v l w) : OldS w v l := (h.slr rsOk).mono (fun k hk => by have := h.lt; omega)
/-- A copy of a list. -/
theorem copyS (w : World) (v : Value) (l : List Tx) (h : SlR RS (fun _ => False) v l w) (hl : l.length ≤ 8796093022208) :
    ∃ g c W, Hid (∀ ty, (Builtin.append_ #[38, 38] ty #[.slice (some ⟨w.heap.size, 0, none⟩) 0 0, v]).run Try.prog (w.alloc (.cells #[] 9)) = .ok (.slice (some ⟨g, 0, none⟩) l.length c) W) ∧
      OwR RS g (.slice (some ⟨g, 0, none⟩) l.length c) l W ∧ Nw w W ∧ w.heap.size ≤ g := by
  have hN0 : Nw w (w.alloc (.cells #[] 9)) := (Fr.refl _ _).alloc _
  have hs0 : (w.alloc (.cells #[] RS.T)).heap.size = w.heap.size + 1 := by simp
  obtain ⟨v1, g, W, k1, k2, k3, k4⟩ := owR_app rsOk _ _ _ _ (OwR.empty (R := RS) w) v l (h.nw hN0) (by simp [RS]; omega) (by simp; omega)
  rw [List.nil_append] at k2
  obtain ⟨c, e, _, _⟩ := k2.form
  subst e
  exact ⟨g, c, W, k1, k2, Fr.then hN0 k3 (fun i hi => .inr (by omega)), by rcases k4 with e | e <;> omega⟩
theorem lit1 (V : World) (x : Tx) : OwR RS V.heap.size (.slice (some ⟨V.heap.size, 0, none⟩) 1 1) [x] (V.alloc (.cells #[.string (mk x)] 9)) := OwR.built rsOk V [x] _ (by simp [flatR, RS]) (by simp)
theorem lit2 (V : World) (x y : Tx) : OwR RS V.heap.size (.slice (some ⟨V.heap.size, 0, none⟩) 2 2) [x, y] (V.alloc (.cells #[.string (mk x), .string (mk y)] 9)) := OwR.built rsOk V [x, y] _ (by simp [flatR, RS]) (by simp)
theorem mk_lit1 (V : World) (x : Tx) (cs : Array UInt8) (hc : cs = x.toArray) : OwR RS V.heap.size (.slice (some ⟨V.heap.size, 0, none⟩) 1 1) [x] (V.alloc (.cells #[.string ⟨cs⟩] 9)) := by subst hc; exact lit1 V x
theorem mk_lit2 (V : World) (x y : Tx) (cs ds : Array UInt8) (hc : cs = x.toArray) (hd : ds = y.toArray) : OwR RS V.heap.size (.slice (some ⟨V.heap.size, 0, none⟩) 2 2) [x, y] (V.alloc (.cells #[.string ⟨cs⟩, .string ⟨ds⟩] 9)) := by subst hc hd; exact lit2 V x y
end Go.Proofs.Ytoplhkpbicgceaa
