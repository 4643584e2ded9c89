import Derived.Test.YtdeefemeiggolaaFeFq
namespace Go.Proofs.Ytdeefemeiggolaa
open Go.RowKit
set_option linter.unusedVariables false
theorem layI_length (sums : Bool) (plain : List By) (zs : List ((Nat × Nat) × List By)) (i : Nat) (hpl : plain.length ≤ 4194304) (hi : i ≤ 4194304) : (layI sums plain zs i).length ≤ 20000000000000 := by
  have key : ∀ l : List ((Nat × Nat) × List By), ((l.map (fun z => blkOf sums (tk plain z.1.1 z.1.2) z.2)).flatten).length ≤ l.length * 4194312 := by
    intro l
    induction l with
    | nil => simp
    | cons z r ih =>
      have h1 := blkOf_length sums (tk plain z.1.1 z.1.2) z.2
      have h2 : (tk plain z.1.1 z.1.2).length ≤ 4194304 := by unfold tk; rw [List.length_take, List.length_drop]; omega
      simp only [List.map_cons, List.flatten_cons, List.length_append, List.length_cons]
      omega
  have := key (zs.take i)
  have h3 : (zs.take i).length ≤ i := by rw [List.length_take]; omega
  unfold layI
  omega
theorem lay_end (K : Nat → Prop) (w0 wr : World) (hK : ∀ k, K k → k < w0.heap.size) (hF : Fr (fun k => ¬ K k) w0 wr) (v7 : Value) (acc : List By) (hM : Mine K v7 acc wr) (hacc : acc.length ≤ 100000000000000) (vx : Value) (bts : List By) (hx : Sl (fun k => ¬ K k) vx bts w0) :
    ∃ a4 l4 c4 W4, Hid (∀ ty, (Builtin.append_ #[22, 22] ty #[v7, .slice (some ⟨wr.heap.size, 0, none⟩) 4 4]).run Try.prog (wr.alloc (.cells #[.int .u8 0, .int .u8 0, .int .u8 0, .int .u8 0] 5)) = .ok (.slice a4 l4 c4) W4) ∧ Hid (Mine K (.slice a4 l4 c4) (acc ++ lows 0 4) W4 ∧ Fr (fun k => ¬ K k) w0 W4) ∧
      Hid (Calls Try.prog 45 #[.int .u32 0, vx] W4 fun e w5 => ∃ q : Nat, e = .returned (.int .u32 q) ∧ q < 4294967296 ∧ Hid (Calls Try.prog 28 #[.int .u64 q, .int .i64 4] w5 fun e w6 => ∃ a6 l6 c6, e = .returned (.slice a6 l6 c6) ∧ ∃ a8 l8 c8 W8, Hid (∀ ty, (Builtin.append_ #[22, 22] ty #[.slice a4 l4 c4, .slice a6 l6 c6]).run Try.prog w6 = .ok (.slice a8 l8 c8) W8) ∧ Hid (Mine K (.slice a8 l8 c8) (acc ++ lows 0 4 ++ lows (sm bts) 4) W8 ∧ Fr (fun k => ¬ K k) w0 W8))) := by
  have hK1 : ∀ {V}, Fr (fun k => ¬ K k) w0 V → ∀ k, K k → k < V.heap.size := fun hV k hk => Nat.lt_of_lt_of_le (hK k hk) hV.size
  have hM5 := own_four wr K 0#8 0#8 0#8 0#8 (hK1 hF)
  have hN5 : Nw wr (wr.alloc (.cells #[.int .u8 (0#8).toNat, .int .u8 (0#8).toNat, .int .u8 (0#8).toNat, .int .u8 (0#8).toNat] 5)) := (Fr.refl _ _).alloc _
  have hFn := hF.trans hN5.any
  obtain ⟨v4, W4, hap4, hM4, hF4⟩ := mine_app K _ (hK1 hFn) _ _ (hM.nw hN5) _ _ (hM5.old.mono (fun _ h => h.elim)) (by simp; omega)
  obtain ⟨a4, c4, rfl, _, _⟩ := hM4.sl.form
  have hF4' := hFn.trans hF4
  refine ⟨a4, _, c4, W4, hap4, ⟨hM4, hF4'⟩, ?_⟩
  show Calls _ _ _ _ _
  have hx4 : Old W4 vx bts := (hx.kept hF4' (fun _ h => h)).mono (fun k hk hKk => by have := hK1 hF4' k hKk; omega)
  refine (rsum32_any 0#32 _ bts W4 hx4).mono ?_
  rintro e w5 ⟨rfl, hN5⟩
  refine ⟨sm bts, rfl, sm_lt bts, ?_⟩
  show Calls _ _ _ _ _
  have hF5 := hF4'.trans hN5.any
  refine (dlow_any w5 (sm bts) 4 (by have := sm_lt bts; omega) (by decide)).mono ?_
  rintro e w6 ⟨a6, l6, c6, rfl, hM6, hN6⟩
  refine ⟨a6, l6, c6, rfl, ?_⟩
  have hF6 := hF5.trans hN6.any
  obtain ⟨v8, W8, hap8, hM8, hF8⟩ := mine_app K w6 (hK1 hF6) _ _ ((hM4.nw hN5).nw hN6) _ _ (hM6.old.mono (fun _ h => h.elim)) (by simp [lows_length]; omega)
  obtain ⟨a8, c8, rfl, _, _⟩ := hM8.sl.form
  exact ⟨a8, _, c8, W8, hap8, hM8, hF6.trans hF8⟩
end Go.Proofs.Ytdeefemeiggolaa
