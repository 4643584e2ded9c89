import Derived.Test.YtpnacppmdlnjlabLzH
namespace Go.Proofs.Ytpnacppmdlnjlab
open Go.RowKit
set_option linter.unusedVariables false
set_option linter.unusedSectionVars false
def KS (D B1 B2 B3 Bs : Nat) (k : Nat) : Prop := k < D ∨ k = B1 ∨ k = B2 ∨ k = B3 ∨ k = Bs
/-- How the scan stands at place i, when s was taken. -/
structure SJ {σ : Type} (TI : σ → (Nat → Prop) → World → Prop) (D B1 B2 B3 Bs : Nat) (a : Option Addr) (c : Nat) (b : List By) (w : World) (i : Nat) (s : σ) (wr : World) : Prop where
  rd : Rds D B1 B2 B3 a c b i wr
  ti : TI s (KS D B1 B2 B3 Bs) wr
  kk : KK (KS D B1 B2 B3 Bs) D B1 B2 B3 wr
  bx : Bx Bs B1 B2 B3 b.length wr
  fr : Fr (fun k => D ≤ k) w wr
  nb : Bs ≠ B2
/-- What the scan answers. -/
def Scand {σ : Type} (TI : σ → (Nat → Prop) → World → Prop) (D : Nat) (r : Rs σ) (w : World) (e : Ending) (w' : World) : Prop :=
  Fr (fun k => D ≤ k) w w' ∧ match r with
  | .bad x y => e = .returned (.tuple #[.int .i64 x, .int .i64 y]) ∧ y ≠ 0
  | .good s => e = .returned (.tuple #[.int .i64 0, .int .i64 0]) ∧ TI s (fun k => k < D) w'
section
variable {σ : Type} {T : Tk σ} {D : Nat} {ty : TypeId} {v : Value} {fR fP fC fM fE : Nat} {TI : σ → (Nat → Prop) → World → Prop} (HT : Tkr T D ty v fR fP fC fM fE TI) {B1 B2 B3 Bs : Nat} {a : Option Addr} {c : Nat} {b : List By} {w : World} {i : Nat} {s : σ} {wr : World}
theorem SJ.frame (h : SJ TI D B1 B2 B3 Bs a c b w i s wr) {w' : World} (hF : Fr (fun k => ¬ KS D B1 B2 B3 Bs k ∨ k = B2) wr w') : Bx Bs B1 B2 B3 b.length w' ∧ Fr (fun k => D ≤ k) wr w' ∧ Fr (fun k => D ≤ k) w w' := by
  have hD : ∀ k, ¬ KS D B1 B2 B3 Bs k ∨ k = B2 → D ≤ k := fun k hk => by
    rcases hk with hk | hk
    · by_cases hd : D ≤ k
      · exact hd
      · exact absurd (.inl (by omega)) hk
    · subst hk; exact h.rd.d2
  have hF' := hF.mono (Y := fun k => D ≤ k) (fun k hk => .inl (hD k hk))
  refine ⟨h.bx.kept hF (fun hk => ?_), hF', h.fr.trans hF'⟩
  rcases hk with hk | hk
  · exact hk (.inr (.inr (.inr (.inr rfl))))
  · exact h.nb hk
include HT
theorem SJ.nw (h : SJ TI D B1 B2 B3 Bs a c b w i s wr) {V : World} (hV : Nw wr V) : SJ TI D B1 B2 B3 Bs a c b w i s V :=
  ⟨h.rd.nw hV, HT.grow h.ti hV (fun k hk => .inl hk), h.kk.grow hV.size, h.bx.kept hV (fun h => h), h.fr.trans hV.any, h.nb⟩
theorem SJ.took (h : SJ TI D B1 B2 B3 Bs a c b w i s wr) {w1 : World} {j : Nat} (hR : Rds D B1 B2 B3 a c b j w1) (hF : Fr (fun k => k = B2) wr w1) : SJ TI D B1 B2 B3 Bs a c b w j s w1 := by
  obtain ⟨k1, k2, k3⟩ := h.frame (hF.mono (fun k hk => .inl (.inr hk)))
  exact ⟨hR, HT.keep h.ti hF (fun k hk => by subst hk; exact ⟨h.kk.b2, h.rd.d2⟩), h.kk.grow hF.size, k1, k3, h.nb⟩
theorem SJ.ok (h : SJ TI D B1 B2 B3 Bs a c b w i s wr) {w' : World} {j : Nat} {s1 : σ} (hF : Fr (fun k => ¬ KS D B1 B2 B3 Bs k ∨ k = B2) wr w') (hR : Rds D B1 B2 B3 a c b j w') (hT : TI s1 (KS D B1 B2 B3 Bs) w') : SJ TI D B1 B2 B3 Bs a c b w j s1 w' := by
  obtain ⟨k1, k2, k3⟩ := h.frame hF
  exact ⟨hR, hT, h.kk.grow hF.size, k1, k3, h.nb⟩
/-- The token. -/
theorem SJ.token (h : SJ TI D B1 B2 B3 Bs a c b w i s wr) (hi : i < b.length) (R : World → Nat → Nat → Prop) (hR : ∀ w1 g q, SJ TI D B1 B2 B3 Bs a c b w (i + 1) s w1 → g < D → w1.cell? ⟨g, q, none⟩ = some (.int .u8 b[i].toNat) → R w1 g q) :
    Hid (Calls Try.prog 19 #[.int .i64 1, .pointer (some ⟨B1, 0, none⟩), .pointer (some ⟨B2, 0, none⟩)] wr fun e w1 => ∃ g q d, e = .returned (.tuple #[.slice (some ⟨g, q, none⟩) 1 d, .bool true]) ∧ w1.cell? ⟨g, q, none⟩ = some (.int .u8 b[i].toNat) ∧ Bx Bs B1 B2 B3 b.length w1 ∧ Hid (R w1 g q)) := by
  show Calls _ _ _ _ _
  have hbne : b ≠ [] := by intro h; rw [h] at hi; simp at hi
  refine (take_yes h.rd hbne 1 (by omega)).mono ?_
  rintro e w1 ⟨g, q, d, rfl, hd, hd2, hg, hrd, hR1, hF1⟩
  have hc : w1.cell? ⟨g, q, none⟩ = some (.int .u8 b[i].toNat) := by
    have := hrd.at 0 b[i] (by rw [List.drop_eq_getElem_cons hi]; rfl)
    rw [Nat.add_zero] at this; exact this
  have h1 := h.took HT hR1 hF1
  exact ⟨g, q, d, rfl, hc, h1.bx, hR w1 g q h1 hg hc⟩
theorem SJ.plain (h : SJ TI D B1 B2 B3 Bs a c b w i s wr) (hb : b ≠ []) (low : Nat) (hl : low ≤ 15) (z : Int) (hz : z = low) :
    Calls Try.prog 12 #[.agg (rdsV B1 B2 B3 b.length).toArray, .iface ty v, .int .u8 z] wr fun e w' => Fr (fun k => D ≤ k) wr w' ∧ Bx Bs B1 B2 B3 b.length w' ∧ match plainS T b.length low (b.drop i) s with
      | .bad x y => e = .returned (.tuple #[.int .i64 x, .int .i64 y]) ∧ y ≠ 0
      | .ok r s1 => e = .returned (.tuple #[.int .i64 0, .int .i64 0]) ∧ ∃ j, r = b.drop j ∧ SJ TI D B1 B2 B3 Bs a c b w j s1 w' := by
  subst hz
  refine (scanPlain_any HT h.rd h.ti h.kk hb low hl).mono ?_
  rintro e w' ⟨hF, hm⟩
  obtain ⟨k1, k2, k3⟩ := h.frame hF
  refine ⟨k2, k1, ?_⟩
  cases hp : plainS T b.length low (b.drop i) s with
  | bad x y => rw [hp] at hm; exact hm
  | ok r s1 =>
    rw [hp] at hm
    obtain ⟨h1, j, h2, h3, h4⟩ := hm
    exact ⟨h1, j, h2, h.ok HT hF h3 h4⟩
theorem SJ.mat (h : SJ TI D B1 B2 B3 Bs a c b w i s wr) (hb : b ≠ []) (low : Nat) (hl : low ≤ 15) (z : Int) (hz : z = low) :
    Calls Try.prog 13 #[.agg (rdsV B1 B2 B3 b.length).toArray, .iface ty v, .int .u8 z] wr fun e w' => Fr (fun k => D ≤ k) wr w' ∧ Bx Bs B1 B2 B3 b.length w' ∧ match matchS T b.length low (b.drop i) s with
      | .bad x y => e = .returned (.tuple #[.int .i64 x, .int .i64 y]) ∧ y ≠ 0
      | .ok r s1 => e = .returned (.tuple #[.int .i64 0, .int .i64 0]) ∧ ∃ j, r = b.drop j ∧ SJ TI D B1 B2 B3 Bs a c b w j s1 w' := by
  subst hz
  refine (scanMatch_any HT h.rd h.ti h.kk hb low hl).mono ?_
  rintro e w' ⟨hF, hm⟩
  obtain ⟨k1, k2, k3⟩ := h.frame hF
  refine ⟨k2, k1, ?_⟩
  cases hp : matchS T b.length low (b.drop i) s with
  | bad x y => rw [hp] at hm; exact hm
  | ok r s1 =>
    rw [hp] at hm
    obtain ⟨h1, j, h2, h3, h4⟩ := hm
    exact ⟨h1, j, h2, h.ok HT hF h3 h4⟩
end
end Go.Proofs.Ytpnacppmdlnjlab
