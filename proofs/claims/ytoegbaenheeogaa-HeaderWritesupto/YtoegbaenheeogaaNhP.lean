import Derived.Test.YtoegbaenheeogaaNhO
namespace Go.Proofs.Ytoegbaenheeogaa
open Go.RowKit
set_option linter.unusedVariables false
/-! ### HeaderForms -/
/-- What Encode left, its record laid into a block of its own. -/
structure EnB (h : Hr) (rb : Nat) (W w : World) : Prop where
  nw : Nw W w
  rec1 : RcH rb (encR h) w
theorem encR_length (h : Hr) (ok : h.Ok) : (encR h).length = 512 := by
  by_cases he : encE h = 0
  · obtain ⟨e, F⟩ := encS_eq h ok he
    rw [e]; exact F.length
  · unfold encR
    rw [if_neg he]; exact zrec_length
/-- Encode, and its answer laid into a block. -/
theorem enc_blk (h : Hr) (ok : h.Ok) (V : World) : Calls Try.prog 6 #[.agg h.C] V fun e w2 => e = .returned (.tuple #[.agg (rc (encR h)), .int .i64 (encE h : Nat)]) ∧ ∃ W3, (w2.alloc (.cells Try.zeroCells24 24)).setRow w2.heap.size (rc (encR h)) = W3 ∧ Hid (EnB h w2.heap.size V W3 ∧ V.heap.size ≤ w2.heap.size) := by
  refine (encode_any h ok V).mono ?_
  rintro e w2 ⟨rfl, k⟩
  have hn : Nw w2 ((w2.alloc (.cells Try.zeroCells24 24)).setRow w2.heap.size (rc (encR h))) := ((Fr.refl _ _).alloc _).setRow _ _ (.inr (Nat.le_refl _))
  have hb2 : (w2.alloc (.cells Try.zeroCells24 24)).heap[w2.heap.size]? = some (.cells Try.zeroCells24 24) := newHeap _ _
  exact ⟨rfl, _, rfl, ⟨k.trans hn, setRow_heap _ _ _ _ 24 _ hb2⟩, k.size⟩
theorem rz_facts (R : List By) (hR : R.length = 512) : (Try.prog.info? 24).map (·.size) = some (rc R).size ∧ Try.zeroCells24.size = (rc R).size ∧ (rc R).all (·.oneCell') = true := ⟨rc_info R hR, by rw [zrec_rc, rc_size, rc_size, zrec_length, hR], rc_one R⟩
def hOne : Hr := ⟨3, ⟨#[97]⟩, eS, 0, 0, 0, 0, 0, 53#8, eS, eS, eS, 0, 0⟩
theorem hOne_ok : hOne.Ok := by constructor <;> first | decide | (constructor <;> decide)
theorem hOne_e : encE hOne = 0 := by decide +kernel
theorem hOne_t : (encR hOne)[156]? = some 53#8 := by
  obtain ⟨e, F⟩ := encS_eq hOne hOne_ok hOne_e
  have h1 := F.fd 7 156 1 rfl rfl
  rw [← e] at h1
  have h2 := fd_one (encR hOne) 156 53#8 h1
  rw [List.getD_eq_getElem?_getD] at h2
  have hl : 156 < (encR hOne).length := by rw [encR_length hOne hOne_ok]; decide
  rw [List.getElem?_eq_getElem hl] at h2 ⊢
  exact congrArg some h2
theorem i64_zero : i64 0 := by constructor <;> decide
theorem eS_size : eS.size ≤ 140737488351232 := by decide
theorem plain_ok (h : Hr) (ok : h.Ok) (f : Nat) (hf : isF f) : (plainH h f).Ok := ⟨by show i64 (f : Int); rcases hf with rfl | rfl | rfl <;> constructor <;> decide, ok.mode, ok.uid, ok.gid, ok.size, ok.time, i64_zero, i64_zero, ok.name, eS_size, ok.link, eS_size, eS_size⟩
end Go.Proofs.Ytoegbaenheeogaa
