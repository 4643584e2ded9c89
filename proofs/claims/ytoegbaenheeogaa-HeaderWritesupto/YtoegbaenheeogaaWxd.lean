import Derived.Test.YtoegbaenheeogaaWxb
import Derived.Test.YtoegbaenheeogaaNhH
namespace Go.Proofs.Ytoegbaenheeogaa
open Go.RowKit
set_option linter.unusedVariables false
/-! ### The document's can -/
theorem nz_iff (s : ByteArray) : noZ s = true ↔ (0 : UInt8) ∉ s.data.toList := by
  unfold noZ
  rw [decide_eq_true_iff]
  constructor
  · intro h hm
    obtain ⟨i, hi, e⟩ := List.mem_iff_getElem.1 hm
    exact h (ix_z _ i (by rw [List.getElem?_eq_getElem hi, e]))
  · intro h
    exact ix_nz _ (fun i x hx e => h (by rw [← e]; exact List.mem_of_getElem? hx))
theorem nz_app (a b : ByteArray) : noZ (a ++ b) = (noZ a && noZ b) := by
  rw [Bool.eq_iff_iff, Bool.and_eq_true, nz_iff, nz_iff, nz_iff, ByteArray.data_append, Array.toList_append, List.mem_append, not_or]
def Hr.all5 (h : Hr) : ByteArray := h.name ++ h.link ++ h.user ++ h.group ++ h.pfx
def Hr.canV (h : Hr) : Bool := decide (h.fm ≠ 0) && h.can h.fm
theorem can_out (h : Hr) (hf : h.form < 1 ∨ 3 < h.form) : h.canV = false := by
  have : h.fm = 0 := by unfold Hr.fm; rw [if_neg (by omega), if_neg (by omega), if_neg (by omega)]
  unfold Hr.canV
  rw [this]; rfl
theorem can_eq (h : Hr) (f : Nat) : h.can f = (noZ h.all5 && (((decide (h.name = eS) || decide (0 < fE f)) && ((decide (h.link = eS) || decide (157 < fE f)) && ((decide (h.user = eS) || decide (265 < fE f)) && ((decide (h.group = eS) || decide (297 < fE f)) && (decide (h.pfx = eS) || decide (345 < fE f)))))) && h.ns.all (nCan f))) := by
  unfold Hr.can Hr.ts Hr.all5
  rw [nz_app, nz_app, nz_app, nz_app]
  simp only [List.all_cons, List.all_nil, tCan, Bool.and_true]
  generalize h.ns.all (nCan f) = N
  cases noZ h.name <;> cases noZ h.link <;> cases noZ h.user <;> cases noZ h.group <;> cases noZ h.pfx <;> simp [Bool.and_assoc]
theorem can_z (h : Hr) (hz : noZ h.all5 = false) : h.canV = false := by
  unfold Hr.canV
  rw [can_eq]
  show (_ && (noZ h.all5 && _)) = false
  rw [hz, Bool.false_and, Bool.and_false]
theorem can_1 (h : Hr) (hf : h.form = 1) (hz : noZ h.all5 = true) : h.canV = (decide (h.user = eS) && (decide (h.group = eS) && (decide (h.major = 0) && (decide (h.minor = 0) && decide (h.pfx = eS))))) := by
  have e : h.fm = 1 := by unfold Hr.fm; rw [if_pos hf]
  unfold Hr.canV
  rw [e, can_eq]
  show (_ && (noZ h.all5 && _)) = _
  rw [hz]
  have e1 : fE 1 = 257 := rfl
  simp only [Hr.ns, List.all_cons, List.all_nil, nCan, e1]
  cases decide (h.user = eS) <;> cases decide (h.group = eS) <;> cases decide (h.pfx = eS) <;> cases decide (h.major = 0) <;> cases decide (h.minor = 0) <;> simp
theorem can_2 (h : Hr) (hf : h.form = 2) (hz : noZ h.all5 = true) : h.canV = true := by
  have e : h.fm = 2 := by unfold Hr.fm; rw [if_neg (by omega), if_pos hf]
  unfold Hr.canV
  rw [e, can_eq]
  show (_ && (noZ h.all5 && _)) = _
  rw [hz]
  have e1 : fE 2 = 500 := rfl
  simp [Hr.ns, List.all_cons, List.all_nil, nCan, e1]
theorem can_3 (h : Hr) (hf : h.form = 3) (hz : noZ h.all5 = true) : h.canV = decide (h.pfx = eS) := by
  have e : h.fm = 3 := by unfold Hr.fm; rw [if_neg (by omega), if_neg (by omega), if_pos hf]
  unfold Hr.canV
  rw [e, can_eq]
  show (_ && (noZ h.all5 && _)) = _
  rw [hz]
  have e1 : fE 3 = 345 := rfl
  simp [Hr.ns, List.all_cons, List.all_nil, nCan, e1]
set_option maxHeartbeats 8000000 in
set_option maxRecDepth 100000 in
theorem wcan_any (h : Hr) (w : World) (hs : h.name.size + h.link.size + h.user.size + h.group.size + h.pfx.size ≤ 140737488351232) : Calls Try.prog 21 #[.agg h.C] w fun e w' => e = .returned (.bool h.canV) ∧ Nw w w' := by
  obtain ⟨P, hP⟩ : ∃ P : Ending → World → Prop, P = fun e w' => e = .returned (.bool h.canV) ∧ Nw w w' := ⟨_, rfl⟩
  rw [← hP]
  have HF : Hid (∀ W r, Nw w W → h.canV = r → P (.returned (.bool r)) W) := fun W r hW hr => by rw [hP, ← hr]; exact ⟨rfl, hW⟩
  clear hP
  have n1 : Nw w (w.alloc (.cells h.C 23)) := (Fr.refl _ _).alloc _
  have HF1 : Hid (∀ r, h.canV = r → P (.returned (.bool r)) (w.alloc (.cells h.C 23))) := fun r hr => HF.out _ r n1 hr
  clear HF n1
  have HZ : Hid (∀ V, Calls Try.prog 41 #[.string h.all5] V fun e w' => e = .returned (.bool (!noZ h.all5)) ∧ w' = V) := fun V => wzero_any h.all5 V (by unfold Hr.all5; simp only [ByteArray.size_append]; exact hs)
  have C0 := tHid (can_out h)
  have CZ := tHid (can_z h)
  have C1 := tHid (can_1 h)
  have C2 := tHid (can_2 h)
  have C3 := tHid (can_3 h)
  have b1 := eS_beq h.user
  have b2 := eS_beq h.group
  have b3 := eS_beq h.pfx
  unfold Hr.all5 at HZ CZ C1 C2 C3
  unfold Hr.C at HF1 ⊢
  generalize h.canV = V at *
  by_cases f1 : h.form < 1
  · have HE := tHid (HF1.out false (C0.out (.inl f1)))
    clear C0 CZ C1 C2 C3 b1 b2 b3 HF1 HZ
    go_enter Try.func21, Try.ntmps21
    go_wp2_with fail
    exact HE.out
  · by_cases f2 : 3 < h.form
    · have HE := tHid (HF1.out false (C0.out (.inr f2)))
      clear C0 CZ C1 C2 C3 b1 b2 b3 HF1 HZ
      go_enter Try.func21, Try.ntmps21
      go_wp2_with fail
      exact HE.out
    · clear C0
      generalize hz : noZ (h.name ++ h.link ++ h.user ++ h.group ++ h.pfx) = z at *
      cases z with
      | false =>
        have HE := tHid (HF1.out false (CZ.out rfl))
        clear CZ C1 C2 C3 b1 b2 b3 HF1 hz
        go_enter Try.func21, Try.ntmps21
        go_wp2_with (first | (go_at_call 41; with_reducible refine (HZ.out _).mono ?_; rintro e w1 ⟨rfl, rfl⟩))
        exact HE.out
      | true =>
        clear CZ hz
        have hf : h.form = 1 ∨ h.form = 2 ∨ h.form = 3 := by omega
        rcases hf with hf | hf | hf
        · have HC := tHid (C1.out hf rfl)
          clear C1 C2 C3 f1 f2
          rw [hf] at HF1 ⊢
          by_cases u1 : h.user = eS
          · rw [decide_eq_true u1] at b1 HC
            by_cases u2 : h.group = eS
            · rw [decide_eq_true u2] at b2 HC
              by_cases u3 : h.major = 0
              · rw [decide_eq_true u3] at HC
                rw [u3] at HF1 ⊢
                by_cases u4 : h.minor = 0
                · rw [decide_eq_true u4] at HC
                  rw [u4] at HF1 ⊢
                  have HE := tHid (HF1.out _ HC.out)
                  simp only [Bool.true_and] at HE
                  clear HC HF1 u1 u2 u3 u4
                  go_enter Try.func21, Try.ntmps21
                  go_wp2_with (first | (go_at_call 41; with_reducible refine (HZ.out _).mono ?_; rintro e w1 ⟨rfl, rfl⟩))
                  exact HE.out
                · rw [decide_eq_false u4] at HC
                  have HE := tHid (HF1.out _ HC.out)
                  simp only [Bool.true_and, Bool.false_and] at HE
                  have u4' : (h.minor == 0) = false := by rw [beq_eq_false_iff_ne]; exact u4
                  clear HC HF1 u1 u2 u3 u4
                  go_enter Try.func21, Try.ntmps21
                  go_wp2_with (first | (go_at_call 41; with_reducible refine (HZ.out _).mono ?_; rintro e w1 ⟨rfl, rfl⟩))
                  exact HE.out
              · rw [decide_eq_false u3] at HC
                have HE := tHid (HF1.out _ HC.out)
                simp only [Bool.true_and, Bool.false_and] at HE
                have u3' : (h.major == 0) = false := by rw [beq_eq_false_iff_ne]; exact u3
                clear HC HF1 u1 u2 u3
                go_enter Try.func21, Try.ntmps21
                go_wp2_with (first | (go_at_call 41; with_reducible refine (HZ.out _).mono ?_; rintro e w1 ⟨rfl, rfl⟩))
                exact HE.out
            · rw [decide_eq_false u2] at b2 HC
              have HE := tHid (HF1.out _ HC.out)
              simp only [Bool.true_and, Bool.false_and] at HE
              clear HC HF1 u1 u2
              go_enter Try.func21, Try.ntmps21
              go_wp2_with (first | (go_at_call 41; with_reducible refine (HZ.out _).mono ?_; rintro e w1 ⟨rfl, rfl⟩))
              exact HE.out
          · rw [decide_eq_false u1] at b1 HC
            have HE := tHid (HF1.out _ HC.out)
            simp only [Bool.false_and] at HE
            clear HC HF1 u1
            go_enter Try.func21, Try.ntmps21
            go_wp2_with (first | (go_at_call 41; with_reducible refine (HZ.out _).mono ?_; rintro e w1 ⟨rfl, rfl⟩))
            exact HE.out
        · have HE := tHid (HF1.out true (C2.out hf rfl))
          clear C1 C2 C3 b1 b2 b3 HF1 f1 f2
          rw [hf] at HE ⊢
          go_enter Try.func21, Try.ntmps21
          go_wp2_with (first | (go_at_call 41; with_reducible refine (HZ.out _).mono ?_; rintro e w1 ⟨rfl, rfl⟩))
          exact HE.out
        · have HE := tHid (HF1.out _ (C3.out hf rfl))
          clear C1 C2 C3 b1 b2 HF1 f1 f2
          rw [hf] at HE ⊢
          go_enter Try.func21, Try.ntmps21
          go_wp2_with (first | (go_at_call 41; with_reducible refine (HZ.out _).mono ?_; rintro e w1 ⟨rfl, rfl⟩))
          exact HE.out
end Go.Proofs.Ytoegbaenheeogaa

namespace Go.Proofs.Ytoegbaenheeogaa
open Go.RowKit
set_option linter.unusedVariables false
/-! ### The document's numbers -/
def yN (h : Hr) : Array Value := #[.int .i64 100, .int .i64 8, .int .i64 h.mode, .bool false, .int .i64 108, .int .i64 8, .int .i64 h.uid, .bool false, .int .i64 116, .int .i64 8, .int .i64 h.gid, .bool false, .int .i64 124, .int .i64 12, .int .i64 h.size, .bool false, .int .i64 136, .int .i64 12, .int .i64 h.time, .bool true, .int .i64 329, .int .i64 8, .int .i64 h.major, .bool false, .int .i64 337, .int .i64 8, .int .i64 h.minor, .bool false]
set_option maxHeartbeats 2000000 in
set_option maxRecDepth 100000 in
theorem wnumbers_any (h : Hr) (w : World) : Calls Try.prog 24 #[.agg h.C] w fun e w' => e = .returned (.slice (some ⟨w.heap.size + 1, 0, none⟩) 7 7) ∧ w' = (w.alloc (.cells h.C 23)).alloc (.cells (yN h) 61) := by
  obtain ⟨P, hP⟩ : ∃ P : Ending → World → Prop, P = fun e w' => e = .returned (.slice (some ⟨w.heap.size + 1, 0, none⟩) 7 7) ∧ w' = (w.alloc (.cells h.C 23)).alloc (.cells (yN h) 61) := ⟨_, rfl⟩
  rw [← hP]
  have HF : Hid (P (.returned (.slice (some ⟨w.heap.size + 1, 0, none⟩) 7 7)) ((w.alloc (.cells h.C 23)).alloc (.cells (yN h) 61))) := by rw [hP]; exact ⟨rfl, rfl⟩
  clear hP
  unfold Hr.C yN at HF
  unfold Hr.C
  go_enter Try.func24, Try.ntmps24
  go_wp2_with fail
  exact HF.out
theorem sevenN {j : Nat} (h : j < 7) : j = 0 ∨ j = 1 ∨ j = 2 ∨ j = 3 ∨ j = 4 ∨ j = 5 ∨ j = 6 := by omega
theorem yN_at (h : Hr) (j o n : Nat) (x : Int) (bl : Bool) (hi : h.ns[j]? = some (o, n, x, bl)) : (yN h)[j * 4]? = some (.int .i64 (o : Nat)) ∧ (yN h)[j * 4 + 1]? = some (.int .i64 (n : Nat)) ∧ (yN h)[j * 4 + 2]? = some (.int .i64 x) ∧ (yN h)[j * 4 + 3]? = some (.bool bl) := by
  have h5 : j < 7 := (List.getElem?_eq_some_iff.1 hi).1
  rcases sevenN h5 with rfl | rfl | rfl | rfl | rfl | rfl | rfl <;>
  · simp only [Hr.ns, List.getElem?_cons_zero, List.getElem?_cons_succ, Option.some.injEq, Prod.mk.injEq] at hi
    obtain ⟨rfl, rfl, rfl, rfl⟩ := hi
    exact ⟨rfl, rfl, rfl, rfl⟩
end Go.Proofs.Ytoegbaenheeogaa

namespace Go.Proofs.Ytoegbaenheeogaa
open Go.RowKit
set_option linter.unusedVariables false
/-! ### The document's Encode: how its record stands (pure) -/
/-- i texts and j numbers are through; ft: all of them fit. -/
structure EI (h : Hr) (f i j : Nat) (ft : Bool) (R : List By) : Prop where
  len : R.length = 512
  yes : ft = true → tOkI h f i ∧ nOkI h f j ∧ R = (eL h f i j [0#8] (zs 8)).flatten
  no : ft = false → h.fit f = false
theorem eL_blank (h : Hr) (f : Nat) : (eL h f 0 0 [0#8] (zs 8)).flatten = zrec := by
  have z0 : zrec = (Ws.map zs).flatten := by decide +kernel
  rw [z0]
  have e : [0#8] = zs 1 := rfl
  rw [e]
  simp [eL, eT, eN, Ws]
theorem EI.start (h : Hr) (f : Nat) : EI h f 0 0 true zrec := ⟨zrec_length, fun _ => ⟨tOkI_zero h f, nOkI_zero h f, (eL_blank h f).symm⟩, fun q => by cases q⟩
theorem px_empty (n : Nat) : pxL eS n = zs n := by
  unfold pxL zs
  have e1 : bys' eS = [] := rfl
  have e2 : eS.size = 0 := rfl
  rw [e1, e2, List.nil_append, Nat.sub_zero]
  rfl
theorem pxE_empty (n : Nat) (h1 : 0 < n) (h2 : n ≤ 512) : pxE eS n = 0 := by
  unfold pxE
  have z : noZ eS = true := by decide
  have e2 : eS.size = 0 := rfl
  rw [if_pos ⟨by omega, by omega, z⟩, if_pos (by rw [e2]; omega)]
/-- An empty text is passed by. -/
theorem EI.skip {h : Hr} {f I J : Nat} {ft : Bool} {R : List By} (ok : h.Ok) (H : EI h f I J ft R) {o n sl k : Nat} {φ : FuncId} (T : TRow h I o n sl k φ eS) : EI h f (I + 1) J ft R := by
  refine ⟨H.len, fun q => ?_, H.no⟩
  obtain ⟨h1, h2, h3⟩ := H.yes q
  have hE : pxE eS n = 0 := pxE_empty n T.n0 (by have := T.on; omega)
  refine ⟨tOkI_step h f I _ T.ts h1 (tFit_of hE), h2, ?_⟩
  by_cases ho : o < fE f
  · rw [h3, eL_t h f I J o n k eS _ _ T.ts T.hk ho, px_empty]
    have h5 : I < 5 := (List.getElem?_eq_some_iff.1 T.hk).1
    have ht := T.t
    have hk := T.hk
    congr 1
    clear T h1 h2 h3 hE H
    rcases five h5 with rfl | rfl | rfl | rfl | rfl <;>
    · simp only [kT, tF, List.getElem?_cons_zero, List.getElem?_cons_succ, Option.some.injEq, Prod.mk.injEq] at hk ht
      subst hk
      obtain ⟨rfl, rfl⟩ := ht
      simp [eL, eT]
  · rw [h3, eL_tn h f I J o n eS _ _ T.ts ho]
theorem EI.text {h : Hr} {f I J : Nat} {ft : Bool} {R : List By} (ok : h.Ok) (H : EI h f I J ft R) {o n sl k : Nat} {φ : FuncId} {s : ByteArray} (T : TRow h I o n sl k φ s) (ho : o < fE f) : EI h f (I + 1) J (ft && decide (pxE s n = 0)) (if pxE s n = 0 then pt R o (pxL s n) else R) := by
  by_cases hE : pxE s n = 0
  · rw [if_pos hE, decide_eq_true hE, Bool.and_true]
    refine ⟨?_, fun q => ?_, H.no⟩
    · rw [pt_length _ _ _ (by rw [px_length s n hE, H.len]; exact T.on)]; exact H.len
    · obtain ⟨h1, h2, h3⟩ := H.yes q
      have F := eL_fs h ok f I J [0#8] (zs 8) rfl (zs_length 8) h1 h2
      obtain ⟨e1, e2⟩ := kT_off I k o n T.hk T.t
      refine ⟨tOkI_step h f I _ T.ts h1 (tFit_of hE), h2, ?_⟩
      rw [h3, eL_t h f I J o n k s _ _ T.ts T.hk ho, ← F.pt k o (pxL s n) e1 (by rw [px_length s n hE]; exact e2)]
  · rw [if_neg hE, decide_eq_false hE, Bool.and_false]
    refine ⟨H.len, fun q => (by cases q), fun _ => fit_not_t h f I _ T.ts ?_⟩
    unfold tFit
    rw [decide_eq_false (by simp only; omega), decide_eq_false hE]; rfl
theorem EI.num {h : Hr} {f I J : Nat} {ft : Bool} {R : List By} (ok : h.Ok) (H : EI h f I J ft R) {o n sl k : Nat} {φ : FuncId} {x : Int} {bl : Bool} (T : NRow h J o n sl k φ x bl) (ho : o < fE f) : EI h f I (J + 1) (ft && (decide (nE f x n = 0) && (decide (0 ≤ x) || bl))) (if (decide (nE f x n = 0) && (decide (0 ≤ x) || bl)) = true then pt R o (nL f x n) else R) := by
  have hx := ns_i64 h ok J o n x bl T.ns
  by_cases hE : (decide (nE f x n = 0) && (decide (0 ≤ x) || bl)) = true
  · rw [if_pos hE, hE, Bool.and_true]
    rw [Bool.and_eq_true, decide_eq_true_iff, Bool.or_eq_true, decide_eq_true_iff] at hE
    refine ⟨?_, fun q => ?_, H.no⟩
    · rw [pt_length _ _ _ (by rw [nL_length f x n hx hE.1, H.len]; exact T.on)]; exact H.len
    · obtain ⟨h1, h2, h3⟩ := H.yes q
      have F := eL_fs h ok f I J [0#8] (zs 8) rfl (zs_length 8) h1 h2
      obtain ⟨e1, e2⟩ := kN_off J k o n bl T.hk T.t
      refine ⟨h1, nOkI_step h f J _ T.ns h2 (nFit_of hE.1 hE.2), ?_⟩
      rw [h3, eL_n h f I J o n k x bl _ _ T.ns T.hk ho, ← F.pt k o (nL f x n) e1 (by rw [nL_length f x n hx hE.1]; exact e2)]
  · rw [if_neg hE]
    have hE' : (decide (nE f x n = 0) && (decide (0 ≤ x) || bl)) = false := by simpa using hE
    rw [hE', Bool.and_false]
    refine ⟨H.len, fun q => (by cases q), fun _ => fit_not_n h f J _ T.ns ?_⟩
    unfold nFit
    rw [decide_eq_false (by simp only; omega), Bool.false_or]
    exact hE'
/-- The numbers that a form has not. -/
theorem EI.nskip {h : Hr} {f I J : Nat} {ft : Bool} {R : List By} (H : EI h f I J ft R) {o n : Nat} {x : Int} {bl : Bool} (e : h.ns[J]? = some (o, n, x, bl)) (ho : ¬ o < fE f) : EI h f I (J + 1) ft R := by
  refine ⟨H.len, fun q => ?_, H.no⟩
  obtain ⟨h1, h2, h3⟩ := H.yes q
  exact ⟨h1, nOkI_step h f J _ e h2 (nFit_skip f o n x bl ho), by rw [h3, eL_nn h f I J o n x bl _ _ e ho]⟩
theorem EI.all {h : Hr} {f : Nat} {ft : Bool} {R : List By} (H : EI h f 5 (if f = 1 then 5 else 7) ft R) : EI h f 5 7 ft R := by
  by_cases h1 : f = 1
  · subst h1
    have H5 : EI h 1 5 5 ft R := H
    have H6 := H5.nskip (o := 329) (n := 8) (x := h.major) (bl := false) rfl (by decide)
    exact H6.nskip (o := 337) (n := 8) (x := h.minor) (bl := false) rfl (by decide)
  · rw [if_neg h1] at H; exact H
/-- At the end: whether all fit, and the record with the type and the magic. -/
theorem EI.fit {h : Hr} {f : Nat} {ft : Bool} {R : List By} (H : EI h f 5 7 ft R) : h.fit f = ft := by
  cases ft with
  | false => exact H.no rfl
  | true => exact fit_of h f (H.yes rfl).1 (H.yes rfl).2.1
theorem EI.last {h : Hr} {f : Nat} {R : List By} (ok : h.Ok) (H : EI h f 5 7 true R) : pt (R.set 156 h.typ) 257 (mg f) = (eL h f 5 7 [h.typ] (mg f)).flatten := by
  obtain ⟨h1, h2, h3⟩ := H.yes rfl
  have F := eL_fs h ok f 5 7 [0#8] (zs 8) rfl (zs_length 8) h1 h2
  have F2 := eL_fs h ok f 5 7 [h.typ] (zs 8) rfl (zs_length 8) h1 h2
  have e1 : R.set 156 h.typ = (eL h f 5 7 [h.typ] (zs 8)).flatten := by
    have t := F.pt 7 156 [h.typ] rfl rfl
    rw [show (eL h f 5 7 [0#8] (zs 8)).set 7 [h.typ] = eL h f 5 7 [h.typ] (zs 8) from rfl, ← h3] at t
    rw [← t]
    unfold pt
    rw [List.set_eq_take_append_cons_drop, if_pos (by rw [H.len]; decide)]
    rfl
  rw [e1, F2.pt 9 257 (mg f) rfl (by rw [mg_length]; rfl)]
  rfl
end Go.Proofs.Ytoegbaenheeogaa

namespace Go.Proofs.Ytoegbaenheeogaa
open Go.RowKit
set_option linter.unusedVariables false
/-! ### The document's Encode -/
theorem enc_cant (h : Hr) (hc : h.canV = false) : encE h = 1 ∧ encR h = zrec := by
  have e : encE h = 1 := by
    unfold encE
    rw [if_neg]
    rintro ⟨h1, h2⟩
    unfold Hr.canV at hc
    rw [decide_eq_true h1, h2] at hc
    cases hc
  exact ⟨e, by unfold encR; rw [if_neg (by rw [e]; decide)]⟩
theorem canV_to (h : Hr) (hc : h.canV = true) : h.fm ≠ 0 ∧ h.can h.fm = true := by
  unfold Hr.canV at hc
  rw [Bool.and_eq_true, decide_eq_true_iff] at hc
  exact hc
theorem enc_type (h : Hr) (hc : h.canV = true) (ht : h.typ = 0#8) : encE h = 132 ∧ encR h = zrec := by
  have e : encE h = 132 := by unfold encE; rw [if_pos (canV_to h hc), if_pos ht]
  exact ⟨e, by unfold encR; rw [if_neg (by rw [e]; decide)]⟩
theorem enc_no (h : Hr) (hc : h.canV = true) (ht : h.typ ≠ 0#8) (hf : h.fit h.fm = false) : encE h = 133 ∧ encR h = zrec := by
  have e : encE h = 133 := by unfold encE; rw [if_pos (canV_to h hc), if_neg ht, if_neg (by rw [hf]; decide)]
  exact ⟨e, by unfold encR; rw [if_neg (by rw [e]; decide)]⟩
theorem enc_yes (h : Hr) (hc : h.canV = true) (ht : h.typ ≠ 0#8) (hf : h.fit h.fm = true) : encE h = 0 ∧ encR h = psm (eL h h.fm 5 7 [h.typ] (mg h.fm)).flatten := by
  have e : encE h = 0 := by unfold encE; rw [if_pos (canV_to h hc), if_neg ht, if_pos hf]
  exact ⟨e, by unfold encR; rw [if_pos e]; rfl⟩
/-- The form, where the header can be. -/
theorem canV_form (h : Hr) (hc : h.canV = true) : isF h.fm ∧ h.form = h.fm := by
  obtain ⟨h1, _⟩ := canV_to h hc
  rcases fm_cases h.form with ⟨f, hf, e⟩ | ⟨e1, e2, e3⟩
  · have hfm : h.fm = f := by
      unfold Hr.fm
      rcases hf with rfl | rfl | rfl <;> rw [e] <;> rfl
    rw [hfm]; exact ⟨hf, e⟩
  · exact absurd (by unfold Hr.fm; rw [if_neg e1, if_neg e2, if_neg e3]) h1
end Go.Proofs.Ytoegbaenheeogaa

namespace Go.Proofs.Ytoegbaenheeogaa
open Go.RowKit
set_option linter.unusedVariables false
/-! ### A text's bytes, converted -/
theorem slx_lenH {X : Nat → Prop} {a : Option Addr} {n c : Nat} {l : List By} {w : World} (h : Sl X (.slice a n c) l w) : l.length = n ∧ n ≤ c ∧ c < 9223372036854775808 := by
  rcases h with ⟨a', e, rfl⟩ | ⟨g, _, o, c', e, h1, h2, _⟩
  · injection e with e1 e2 e3
    subst e2 e3
    simp
  · injection e with e1 e2 e3
    subst e2 e3
    exact ⟨rfl, h1, h2⟩
theorem cvb (l : List By) (V : World) : ∃ c V', (convert 9 52 (.string (str l))).run Try.prog V = .ok (.slice (some ⟨V.heap.size, 0, none⟩) l.length c) V' ∧ Nw V V' ∧ (l.length ≤ c → c < 9223372036854775808 → Old V' (.slice (some ⟨V.heap.size, 0, none⟩) l.length c) l) ∧ c = grownCap V l.length 0 5 := by
  have hs : (str l).size = l.length := by simp [str, ByteArray.size]
  have h := run_bytes_of_string (P := Try.prog) V 9 52 5 (str l) Try.underlying9 Try.underlying52 Try.underlying5
  rw [hs] at h
  refine ⟨_, _, h, ((Fr.refl _ _).drew).alloc _, fun h1 h2 => .inr ⟨V.heap.size, ?_, 0, _, rfl, h1, h2, ?_⟩, rfl⟩
  · have : (V.drew.alloc (.cells (bytesRow (str l) (grownCap V l.length 0 5)) 5 ((bytesRow (str l) (grownCap V l.length 0 5)).size, (bytesRow (str l) (grownCap V l.length 0 5)).size + 1))).heap.size = V.heap.size + 1 := by simp
    show ¬ (_ ≤ _)
    omega
  · intro j hj
    have hb := bytesRow_at (str l) (grownCap V l.length 0 5) j (by simpa [str] using hj)
    generalize bytesRow (str l) (grownCap V l.length 0 5) = C at *
    have h0 : (V.drew.alloc (.cells C 5 (C.size, C.size + 1))).heap[V.heap.size]? = some (.cells C 5 (C.size, C.size + 1)) := newHeap V.drew _
    have hv : ((str l).data[j]'(by simpa [str] using hj)).toNat = l[j].toNat := by simp [str, u8_nat]
    rw [Nat.zero_add]
    simp only [World.cell?, h0, hb, hv, bv]
    rfl
theorem cvb8 (l : List By) (hl : l.length = 8) (V : World) : ∃ c V', (convert 9 52 (.string (str l))).run Try.prog V = .ok (.slice (some ⟨V.heap.size, 0, none⟩) l.length c) V' ∧ Nw V V' ∧ Old V' (.slice (some ⟨V.heap.size, 0, none⟩) l.length c) l := by
  obtain ⟨c, V', h1, h2, h3, h4⟩ := cvb l V
  refine ⟨c, V', h1, h2, h3 ?_ ?_⟩
  · rw [h4]; exact grownCap_ge V l.length 0 5
  · rw [h4]; have := grownCap_le_maxLen V l.length 0 5 (by unfold maxLen; omega); unfold maxLen at this; omega
end Go.Proofs.Ytoegbaenheeogaa
