import Derived.Test.YtkpkiajehclbhaaVbi
namespace Go.Proofs.Ytkpkiajehclbhaa
open Go.RowKit
set_option linter.unusedVariables false
/-! ### Coins in memory -/
def RC : RT Coin := { enc := fun x => [.int .i64 (x.1 : Nat), .bool x.2], k := 2, T := 121, TS := 113, z := (0, false), by_ := 16 }
theorem rcOk : RC.Ok := by
  refine ⟨fun _ => rfl, by decide, fun x v hv => ?_, Try.underlying113, ?_⟩
  · simp only [RC, List.mem_cons, List.mem_nil_iff, or_false] at hv
    rcases hv with rfl | rfl <;> rfl
  · have h : (Try.prog.info? 121).map (fun i => (i.zero, i.size, i.bytes)) = some (some (.agg #[.int .i64 0, .bool false]), 2, 16) := by kernel_rfl
    cases hq : Try.prog.info? 121 with
    | none => simp [hq] at h
    | some i => simp [hq] at h; exact ⟨i, _, hq, h.1, h.2.1, h.2.2, rfl⟩
theorem rc_at {X : Nat → Prop} {a : Option Addr} {n c : Nat} {l : List Coin} {w : World} (h : SlR RC X (.slice a n c) l w) (i : Nat) (x : Coin) (hx : l[i]? = some x) : ∃ g o, a = some ⟨g, o, none⟩ ∧ ¬ X g ∧ w.cell? ⟨g, o + i * 2, none⟩ = some (.int .i64 (x.1 : Nat)) ∧ w.cell? ⟨g, o + i * 2 + 1, none⟩ = some (.bool x.2) := by
  obtain ⟨g, o, e, hg, hc⟩ := h.at i x hx
  exact ⟨g, o, e, hg, hc 0 _ rfl, hc 1 _ rfl⟩
theorem step_append_ty {ops : Array Oper} {o : Oper} {a : Act} {w : World} {K : Act → World → Prop} {Q : Exit → Act → World → Prop} {E : Prop} (t : TypeId) (hg : o.guard = none) (s x : Operand) (hop : o.op = Op.call { callee := Callee.builtin Builtin.append, args := #[s, x], argTypes := #[t, t] })
    (vs vx : Value) (hs : a.eval s = vs) (hx : a.eval x = vx) (v' : Value) (W : World) (hrun : ∀ ty, (Builtin.append_ #[t, t] ty #[vs, vx]).run Try.prog w = .ok v' W) (hK : K (a.put o.dst v') W) :
    if Region.wanted o (yielded ops a.tmps) = true then Oper.wp Try.prog o a w K Q else E := by
  have hw : Region.wanted o (yielded ops a.tmps) = true := by simp [Region.wanted, hg]
  rw [if_pos hw]
  unfold Oper.wp
  simp [execOp, hop, resolve, invoke, builtin, hs, hx, hrun, Result.andThen]
  exact hK
/-- One element more to a list of one's own. -/
theorem ow_push {α : Type} {R : RT α} (hR : R.Ok) (V : World) (g n c : Nat) (l : List α) (h : OwR R g (.slice (some ⟨g, 0, none⟩) n c) l V) (hn : l.length = n) (x : α) (cs : Array Value) (hcs : cs = (R.enc x).toArray) (hb : (n + 1 + (n + 1) / 4 + 192) * R.by_ ≤ 281474976710656) (hb2 : n ≤ 1000000) :
    ∃ g' c' W, Hid (∀ ty, (Builtin.append_ #[R.TS, R.TS] ty #[.slice (some ⟨g, 0, none⟩) n c, .slice (some ⟨V.heap.size, 0, none⟩) 1 1]).run Try.prog (V.alloc (.cells cs R.T)) = .ok (.slice (some ⟨g', 0, none⟩) (n + 1) c') W) ∧ OwR R g' (.slice (some ⟨g', 0, none⟩) (n + 1) c') (l ++ [x]) W ∧ Fr (fun k => k = g) V W ∧ (g' = g ∨ V.heap.size ≤ g') ∧ n + 1 ≤ c' ∧ c' < 9223372036854775808 := by
  have hN : Nw V (V.alloc (.cells cs R.T)) := (Fr.refl _ _).alloc _
  have hbt := OwR.built hR V [x] cs (by rw [hcs]; simp [flatR]) (by simp)
  subst hn
  obtain ⟨v', g', W, k1, k2, k3, k4⟩ := owR_app hR _ g _ l (h.nw hN) (.slice (some ⟨V.heap.size, 0, none⟩) 1 1) [x] ((hbt.slr hR).mono (fun _ h => h.elim)) (by simpa using hb) (by simp; omega)
  obtain ⟨c', e, q1, q2⟩ := k2.form
  rw [List.length_append, List.length_singleton] at e q1
  subst e
  refine ⟨g', c', W, k1, k2, hN.any.trans k3, ?_, q1, q2⟩
  rcases k4 with e | e
  · exact .inl e
  · have : (V.alloc (.cells cs R.T)).heap.size = V.heap.size + 1 := by simp
    exact .inr (by omega)
set_option maxHeartbeats 16000000 in
set_option maxRecDepth 100000 in
/-- How many are a symbol's. -/
theorem singles_any (w : World) (v : Value) (P0 : List Coin) (h : SlR RC (fun k => w.heap.size ≤ k) v P0 w) (hl : P0.length ≤ 1000000) : Calls Try.prog 67 #[v] w fun e w' => e = .returned (.int .i64 (P0.countP isS : Nat)) ∧ Nw w w' := by
  obtain ⟨P, hP⟩ : ∃ P : Ending → World → Prop, P = fun e w' => e = .returned (.int .i64 (P0.countP isS : Nat)) ∧ Nw w w' := ⟨_, rfl⟩
  rw [← hP]
  have HF : Hid (∀ V, Nw w V → P (.returned (.int .i64 (P0.countP isS : Nat))) V) := fun V hV => by rw [hP]; exact ⟨rfl, hV⟩
  have HS : Hid (∀ V, Nw w V → SlR RC (fun k => w.heap.size ≤ k) v P0 V) := fun V hV => h.nw hV
  obtain ⟨a, c, rfl, hc, hc2, _⟩ := h.form
  clear hP h
  generalize hL : P0.length = L at *
  have HL : Hid (P0.length = L) := hL
  clear hL
  go_enter Try.func67, Try.ntmps67
  go_wp2
  go_loopg [3, 8] L (fun kx s i wr => ∃ (I S : Nat), I ≤ L ∧ L - I ≤ kx ∧ S ≤ I ∧ s = .int .i64 S ∧ i = .int .i64 I ∧ Hid (S = (P0.take I).countP isS) ∧ Hid (Nw w wr))
  case atStart => exact ⟨0, 0, by omega, by omega, by omega, rfl, rfl, (by show 0 = _; simp), Fr.refl _ _⟩
  case round =>
    obtain ⟨I, S, hI, hkx, hSI, rfl, rfl, HI, HN⟩ := hrel
    by_cases hlt : I < L
    · have hz : (I : Int) < (L : Int) := by omega
      obtain ⟨x, hx⟩ : ∃ x, P0[I]? = some x := ⟨_, List.getElem?_eq_getElem (by rw [HL.out]; exact hlt)⟩
      obtain ⟨g, o, rfl, _, k1, k2⟩ := rc_at (HS.out wr HN.out) I x hx
      have hst : (P0.take (I + 1)).countP isS = (P0.take I).countP isS + (if isS x then 1 else 0) := by
        rw [List.take_add_one, hx, List.countP_append]
        simp
      have HN2 : Hid (∀ V, Nw wr V → Nw w V) := fun V hV => HN.out.trans hV
      obtain ⟨x1, x2⟩ := x
      cases x2 with
      | true =>
        have HI2 : Hid (S = (P0.take (I + 1)).countP isS) := by
          show S = _
          rw [hst, HI.out]; simp [isS]
        clear HI HN HF HS hst hx
        go_upto_region 5 with fail
        have HB : Hid (Nw wr (wr.alloc (.cells #[.int .i64 (x1 : Nat), .bool true] 121))) := (Fr.refl _ _).alloc _
        have y1 := new_cell wr #[.int .i64 (x1 : Nat), .bool true] 121 1 _ rfl
        generalize wr.alloc (.cells #[.int .i64 (x1 : Nat), .bool true] 121) = w2 at *
        generalize wr.heap.size = xb at *
        go_wp2_with fail
        go_roundg (L - (I + 1))
        case measure => omega
        case rel => exact ⟨I + 1, S, by omega, by omega, by omega, rfl, by first | rfl | (congr 1), HI2, HN2.out _ HB.out⟩
      | false =>
        have HI2 : Hid (S + 1 = (P0.take (I + 1)).countP isS) := by
          show S + 1 = _
          rw [hst, HI.out]; simp [isS]
        clear HI HN HF HS hst hx
        go_upto_region 5 with fail
        have HB : Hid (Nw wr (wr.alloc (.cells #[.int .i64 (x1 : Nat), .bool false] 121))) := (Fr.refl _ _).alloc _
        have y1 := new_cell wr #[.int .i64 (x1 : Nat), .bool false] 121 1 _ rfl
        generalize wr.alloc (.cells #[.int .i64 (x1 : Nat), .bool false] 121) = w2 at *
        generalize wr.heap.size = xb at *
        go_wp2_with fail
        go_roundg (L - (I + 1))
        case measure => omega
        case rel => exact ⟨I + 1, S + 1, by omega, by omega, by omega, by first | rfl | (congr 1), by first | rfl | (congr 1), HI2, HN2.out _ HB.out⟩
    · obtain rfl : I = L := by omega
      have hz : ¬ (I : Int) < (I : Int) := by omega
      have hS : S = P0.countP isS := by
        have := HI.out
        rw [List.take_of_length_le (by rw [HL.out]; exact Nat.le_refl _)] at this
        exact this
      have HF2 : Hid (P (.returned (.int .i64 S)) wr) := by rw [hS]; exact HF.out wr HN.out
      clear HI HN HF HS hS
      go_wp2_with fail
      exact HF2.out
end Go.Proofs.Ytkpkiajehclbhaa
