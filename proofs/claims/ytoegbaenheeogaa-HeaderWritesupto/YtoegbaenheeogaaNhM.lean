import Derived.Test.YtoegbaenheeogaaNhL
import Derived.Deep.RegionHeld3
namespace Go.Proofs.Ytoegbaenheeogaa
open Go.RowKit
set_option linter.unusedVariables false
/-! ### A record under way -/
structure RI (h : Hr) (f I J rb : Nat) (U0 w : World) : Prop where
  rc0 : RcH rb (eL h f I J [h.typ] (mg f)).flatten w
  fr : Fr (fun k => k = rb) U0 w
  t : tOkI h f I
  n : nOkI h f J
theorem RI.len {h : Hr} {f I J rb : Nat} {U0 w : World} (H : RI h f I J rb U0 w) (ok : h.Ok) : (eL h f I J [h.typ] (mg f)).flatten.length = 512 := (eL_fs h ok f I J _ _ rfl (mg_length f) H.t H.n).length
theorem RI.nw {h : Hr} {f I J rb : Nat} {U0 w w' : World} (H : RI h f I J rb U0 w) (k : Nw w w') : RI h f I J rb U0 w' := ⟨H.rc0.kept k (fun h => h), Fr.then H.fr k (fun i hi => hi.elim), H.t, H.n⟩
theorem tFit_skip (f o n : Nat) (s : ByteArray) (ho : ¬ o < fE f) : tFit f (o, n, s) = true := by
  unfold tFit
  rw [Bool.or_eq_true]
  exact .inl (decide_eq_true (by simp only; omega))
theorem nFit_skip (f o n : Nat) (x : Int) (bl : Bool) (ho : ¬ o < fE f) : nFit f (o, n, x, bl) = true := by
  unfold nFit
  rw [Bool.or_eq_true]
  exact .inl (decide_eq_true (by simp only; omega))
theorem RI.tskip {h : Hr} {f I J rb : Nat} {U0 w : World} (H : RI h f I J rb U0 w) {o n : Nat} {s : ByteArray} (e : h.ts[I]? = some (o, n, s)) (ho : ¬ o < fE f) : RI h f (I + 1) J rb U0 w :=
  ⟨by rw [eL_tn h f I J o n s _ _ e ho]; exact H.rc0, H.fr, tOkI_step h f I _ e H.t (tFit_skip f o n s ho), H.n⟩
theorem RI.nskip {h : Hr} {f I J rb : Nat} {U0 w : World} (H : RI h f I J rb U0 w) {o n : Nat} {x : Int} {bl : Bool} (e : h.ns[J]? = some (o, n, x, bl)) (ho : ¬ o < fE f) : RI h f I (J + 1) rb U0 w :=
  ⟨by rw [eL_nn h f I J o n x bl _ _ e ho]; exact H.rc0, H.fr, H.t, nOkI_step h f J _ e H.n (nFit_skip f o n x bl ho)⟩
theorem kT_off (I k o n : Nat) (hk : kT[I]? = some k) (ht : tF[I]? = some (o, n)) : (Ws.take k).sum = o ∧ Ws[k]? = some n := by
  have h5 : I < 5 := (List.getElem?_eq_some_iff.1 hk).1
  rcases five h5 with rfl | rfl | rfl | rfl | rfl <;>
  · simp only [kT, tF, List.getElem?_cons_zero, List.getElem?_cons_succ, Option.some.injEq, Prod.mk.injEq] at hk ht
    subst hk
    obtain ⟨rfl, rfl⟩ := ht
    exact ⟨rfl, rfl⟩
theorem kN_off (I k o n : Nat) (bl : Bool) (hk : kN[I]? = some k) (ht : nF[I]? = some (o, n, bl)) : (Ws.take k).sum = o ∧ Ws[k]? = some n := by
  have h5 : I < 7 := (List.getElem?_eq_some_iff.1 hk).1
  rcases seven h5 with rfl | rfl | rfl | rfl | rfl | rfl | rfl <;>
  · simp only [kN, nF, List.getElem?_cons_zero, List.getElem?_cons_succ, Option.some.injEq, Prod.mk.injEq] at hk ht
    subst hk
    obtain ⟨rfl, rfl, rfl⟩ := ht
    exact ⟨rfl, rfl⟩
theorem RI.tput {h : Hr} {f I J rb : Nat} {U0 w w' : World} (ok : h.Ok) (H : RI h f I J rb U0 w) {o n sl k : Nat} {φ : FuncId} {s : ByteArray} (R : TRow h I o n sl k φ s) (ho : o < fE f) (hE : pxE s n = 0) (hr : RcH rb (pt (eL h f I J [h.typ] (mg f)).flatten o (pxL s n)) w') (hf : Fr (fun k => k = rb) w w') : RI h f (I + 1) J rb U0 w' := by
  have F := eL_fs h ok f I J [h.typ] (mg f) rfl (mg_length f) H.t H.n
  obtain ⟨e1, e2⟩ := kT_off I k o n R.hk R.t
  refine ⟨?_, Fr.then H.fr hf (fun i hi => .inl hi), tOkI_step h f I _ R.ts H.t (tFit_of hE), H.n⟩
  rw [eL_t h f I J o n k s _ _ R.ts R.hk ho, ← F.pt k o (pxL s n) e1 (by rw [px_length s n hE]; exact e2)]
  exact hr
theorem RI.nput {h : Hr} {f I J rb : Nat} {U0 w w' : World} (ok : h.Ok) (H : RI h f I J rb U0 w) {o n sl k : Nat} {φ : FuncId} {x : Int} {bl : Bool} (R : NRow h J o n sl k φ x bl) (ho : o < fE f) (hE : nE f x n = 0) (hb : 0 ≤ x ∨ bl = true) (hr : RcH rb (pt (eL h f I J [h.typ] (mg f)).flatten o (nL f x n)) w') (hf : Fr (fun k => k = rb) w w') : RI h f I (J + 1) rb U0 w' := by
  have F := eL_fs h ok f I J [h.typ] (mg f) rfl (mg_length f) H.t H.n
  obtain ⟨e1, e2⟩ := kN_off J k o n bl R.hk R.t
  have hx := ns_i64 h ok J o n x bl R.ns
  refine ⟨?_, Fr.then H.fr hf (fun i hi => .inl hi), H.t, nOkI_step h f J _ R.ns H.n (nFit_of hE hb)⟩
  rw [eL_n h f I J o n k x bl _ _ R.ns R.hk ho, ← F.pt k o (nL f x n) e1 (by rw [nL_length f x n hx hE]; exact e2)]
  exact hr
/-- The record at the start: the type and the magic. -/
theorem eL_start (h : Hr) (f : Nat) : (eL h f 0 0 [h.typ] (mg f)).flatten = pt (zrec.set 156 h.typ) 257 (mg f) := by
  have Z : Fs (Ws.map zs) := by
    unfold Fs
    rw [List.map_map]
    have : (List.length ∘ zs) = id := by funext n; exact zs_length n
    rw [this, List.map_id]
  have z0 : zrec = (Ws.map zs).flatten := by decide +kernel
  have e1 : zrec.set 156 h.typ = ((Ws.map zs).set 7 [h.typ]).flatten := by
    rw [← Z.pt 7 156 [h.typ] rfl rfl, ← z0]
    unfold pt
    rw [List.set_eq_take_append_cons_drop, if_pos (by rw [zrec_length]; decide)]
    rfl
  have Z1 : Fs ((Ws.map zs).set 7 [h.typ]) := Z.set 7 _ rfl
  rw [e1, Z1.pt 9 257 (mg f) rfl (by rw [mg_length]; rfl)]
  simp [eL, eT, eN, Ws]
/-- What is held while a text is put. -/
def SeT (fb xb hb sl : Nat) (a E o n : Int) (F G : Value) (s : Value) (w : World) : Prop := w.cell? ⟨fb, 0, none⟩ = some (.int .i64 a) ∧ w.cell? ⟨fb, 1, none⟩ = some (.int .i64 E) ∧ w.cell? ⟨fb, 2, none⟩ = some F ∧ w.cell? ⟨xb, 0, none⟩ = some (.int .i64 o) ∧ w.cell? ⟨xb, 1, none⟩ = some (.int .i64 n) ∧ w.cell? ⟨xb, 2, none⟩ = some G ∧ w.cell? ⟨hb, sl, none⟩ = some s
end Go.Proofs.Ytoegbaenheeogaa
