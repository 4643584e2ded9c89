import Derived.Test.YtlfcgldbgejfbaaXxM
namespace Go.Proofs.Ytlfcgldbgejfbaa
open Go.RowKit
set_option linter.unusedVariables false
/-- A slice of what is there. -/
abbrev Old (w : World) (v : Value) (b : List By) : Prop := Sl (fun k => w.heap.size ≤ k) v b w
theorem Sl.length {X : Nat → Prop} {v : Value} {b : List By} {w : World} (h : Sl X v b w) : b.length < 9223372036854775808 := by
  rcases h with ⟨_, _, rfl⟩ | ⟨g, _, o, c, _, h2, h3, _⟩
  · simp
  · omega
theorem Sl.mono {X Y : Nat → Prop} {v : Value} {b : List By} {w : World} (h : Sl X v b w) (hxy : ∀ g, Y g → X g) : Sl Y v b w := by
  rcases h with h | ⟨g, h1, h2⟩
  · exact .inl h
  · exact .inr ⟨g, fun hy => h1 (hxy g hy), h2⟩

set_option maxHeartbeats 4000000 in
theorem sumf32_any (s : BitVec 32) (v : Value) (b : List By) (w : World) (hv : Old w v b) : Calls Try.prog 9 #[.int .u32 s.toNat, v] w fun e w' => e = .returned (.int .u32 (s32 s b).toNat) ∧ Nw w w' := by
  have hlen := hv.length
  have H1 : Hid (Calls Try.prog 13 #[.int .u32 s.toNat] w fun e w1 => e = .returned (.pointer (some ⟨w.heap.size, 0, none⟩)) ∧ Hid (Calls Try.prog 20 #[.pointer (some ⟨w.heap.size, 0, none⟩), v] w1 fun e w2 => (∃ r, e = .returned r) ∧ Hid (Calls Try.prog 22 #[.pointer (some ⟨w.heap.size, 0, none⟩)] w2 fun e w3 => e = .returned (.int .u32 (s32 s b).toNat) ∧ Nw w w3))) := by
    refine (new32_any s _ rfl w).mono ?_
    rintro e w1 ⟨rfl, hN, hD, _⟩
    refine ⟨rfl, ?_⟩
    show Calls _ _ _ _ _
    refine (write32_any w.heap.size s [] v b w1 (Took32.new hD) ((hv.nw hN).mono (fun g hg => by omega))).mono ?_
    rintro e w2 ⟨hr, hT, hF⟩
    refine ⟨hr, ?_⟩
    show Calls _ _ _ _ _
    refine (sum32_any w.heap.size s _ w2 hT (by simp; omega)).mono ?_
    rintro e w3 ⟨rfl, hN3⟩
    exact ⟨rfl, Fr.trans (hN.then hF (fun i hi => .inr (by omega))) hN3⟩
  clear hv
  go_enter Try.func9, Try.ntmps9
  go_wp2_with (go_at_call 13; with_reducible refine H1.out.mono ?_; rintro e w1 ⟨rfl, H2⟩)
  go_wp2_with (go_at_call 20; with_reducible refine H2.out.mono ?_; rintro e w2 ⟨⟨r, rfl⟩, H3⟩)
  go_wp2_with (go_at_call 22; with_reducible refine H3.out.mono ?_; rintro e w3 ⟨rfl, hN3⟩)
  go_ret
  exact ⟨rfl, hN3⟩

set_option maxHeartbeats 4000000 in
theorem sumf64_any (s : BitVec 64) (v : Value) (b : List By) (w : World) (hv : Old w v b) : Calls Try.prog 10 #[.int .u64 s.toNat, v] w fun e w' => e = .returned (.int .u64 (s64 s b).toNat) ∧ Nw w w' := by
  have hlen := hv.length
  have H1 : Hid (Calls Try.prog 14 #[.int .u64 s.toNat] w fun e w1 => e = .returned (.pointer (some ⟨w.heap.size, 0, none⟩)) ∧ Hid (Calls Try.prog 21 #[.pointer (some ⟨w.heap.size, 0, none⟩), v] w1 fun e w2 => (∃ r, e = .returned r) ∧ Hid (Calls Try.prog 23 #[.pointer (some ⟨w.heap.size, 0, none⟩)] w2 fun e w3 => e = .returned (.int .u64 (s64 s b).toNat) ∧ Nw w w3))) := by
    refine (new64_any s _ rfl w).mono ?_
    rintro e w1 ⟨rfl, hN, hD, _⟩
    refine ⟨rfl, ?_⟩
    show Calls _ _ _ _ _
    refine (write64_any w.heap.size s [] v b w1 (Took64.new hD) ((hv.nw hN).mono (fun g hg => by omega))).mono ?_
    rintro e w2 ⟨hr, hT, hF⟩
    refine ⟨hr, ?_⟩
    show Calls _ _ _ _ _
    refine (sum64_any w.heap.size s _ w2 hT (by simp; omega)).mono ?_
    rintro e w3 ⟨rfl, hN3⟩
    exact ⟨rfl, Fr.trans (hN.then hF (fun i hi => .inr (by omega))) hN3⟩
  clear hv
  go_enter Try.func10, Try.ntmps10
  go_wp2_with (go_at_call 14; with_reducible refine H1.out.mono ?_; rintro e w1 ⟨rfl, H2⟩)
  go_wp2_with (go_at_call 21; with_reducible refine H2.out.mono ?_; rintro e w2 ⟨⟨r, rfl⟩, H3⟩)
  go_wp2_with (go_at_call 23; with_reducible refine H3.out.mono ?_; rintro e w3 ⟨rfl, hN3⟩)
  go_ret
  exact ⟨rfl, hN3⟩
end Go.Proofs.Ytlfcgldbgejfbaa
