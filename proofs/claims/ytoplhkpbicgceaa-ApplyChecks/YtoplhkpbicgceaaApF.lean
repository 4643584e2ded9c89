import Derived.Test.YtoplhkpbicgceaaApE
import Derived.Test.YtoplhkpbicgceaaLzY
namespace Go.Proofs.Ytoplhkpbicgceaa
open Go.RowKit
set_option linter.unusedVariables false
set_option maxRecDepth 100000
def stC (e : Ae) (p : Ap) (v : Value) : Array Value := #[.string (Go.Proofs.Ytoplhkpbicgceaa.mk e.nm), .int .i64 e.kind, .int .u32 e.md, .int .u32 e.ud, .int .u32 e.gd, .int .i64 e.tm, .int .i32 e.nn, .string e.us, .string e.gr, .string (Go.Proofs.Ytoplhkpbicgceaa.mk e.lk), .int .i64 e.sz, .int .u8 e.ty, v, .int .i64 p.there, .bool p.par, .int .u32 p.mask, .bool p.leav]
structure Ls (w : World) (e : Ae) (p : Ap) (v : Value) (V : World) : Prop where
  row : V.heap[w.heap.size]? = some (.cells (stC e p v) 31)
  nw : Nw w V
theorem Ls.on {w V U : World} {e : Ae} {p : Ap} {v : Value} (h : Ls w e p v V) (k : Nw V U) : Ls w e p v U := ⟨k.heap h.row, h.nw.trans k⟩
def LsC (B : Nat) (e : Ae) (p : Ap) (v : Value) (V : World) : Prop :=
  V.cell? ⟨B, 0, none⟩ = some (.string (mk e.nm)) ∧ V.cell? ⟨B, 1, none⟩ = some (.int .i64 e.kind) ∧ V.cell? ⟨B, 2, none⟩ = some (.int .u32 e.md) ∧ V.cell? ⟨B, 3, none⟩ = some (.int .u32 e.ud) ∧ V.cell? ⟨B, 4, none⟩ = some (.int .u32 e.gd) ∧ V.cell? ⟨B, 5, none⟩ = some (.int .i64 e.tm) ∧ V.cell? ⟨B, 6, none⟩ = some (.int .i32 e.nn) ∧ V.cell? ⟨B, 7, none⟩ = some (.string e.us) ∧ V.cell? ⟨B, 8, none⟩ = some (.string e.gr) ∧ V.cell? ⟨B, 9, none⟩ = some (.string (mk e.lk)) ∧ V.cell? ⟨B, 10, none⟩ = some (.int .i64 e.sz) ∧ V.cell? ⟨B, 11, none⟩ = some (.int .u8 e.ty) ∧
  V.cell? ⟨B, 12, none⟩ = some v ∧ V.cell? ⟨B, 13, none⟩ = some (.int .i64 p.there) ∧ V.cell? ⟨B, 14, none⟩ = some (.bool p.par) ∧ V.cell? ⟨B, 15, none⟩ = some (.int .u32 p.mask) ∧ V.cell? ⟨B, 16, none⟩ = some (.bool p.leav)
theorem ls_cells {w V : World} {e : Ae} {p : Ap} {v : Value} (h : Ls w e p v V) : LsC w.heap.size e p v V := by
  obtain ⟨h1, _⟩ := h
  unfold stC at h1
  unfold LsC
  refine ⟨?_, ?_, ?_, ?_, ?_, ?_, ?_, ?_, ?_, ?_, ?_, ?_, ?_, ?_, ?_, ?_, ?_⟩ <;> simp [World.cell?, h1]
def dotsE : Ae := ⟨[46, 46], 1, 0, 0, 0, 0, 0, ⟨#[]⟩, ⟨#[]⟩, [], 0, 0⟩
def zeroP : Ap := ⟨0, false, 0, false⟩
theorem dots_split : splE [46, 46] = 92 := by
  unfold splE
  rw [if_neg (by decide), if_neg (by decide), if_neg (by decide), if_pos (by decide)]
theorem dots_chk : chkF dotsE 0 zeroP = 92 := by
  unfold chkF
  rw [if_neg (by decide), if_pos (by show splE [46, 46] ≠ 0; rw [dots_split]; decide)]
  exact dots_split
theorem mk_nil19 : mk ([] : Tx) = ⟨#[]⟩ := rfl
theorem mk_dots19 : mk ([46, 46] : Tx) = ⟨#[46, 46]⟩ := rfl
set_option maxHeartbeats 8000000 in
theorem checks_walk (w : World) (e : Ae) (p : Ap) (hn : e.nm.length ≤ 140737488351232) (hl : e.lk.length ≤ 140737488351232) (a : Option Addr) (c : Nat) (b : List By) (hb : Old w (.slice a b.length c) b) (hbl : b.length ≤ 140737488351232) :
    Calls Try.prog 3 #[.agg (stC e p (.slice a b.length c))] w fun r w' => r = .returned (.bool true) ∧ Nw w w' := by
  obtain ⟨P, hP⟩ : ∃ P : Ending → World → Prop, P = fun r w' => r = .returned (.bool true) ∧ Nw w w' := ⟨_, rfl⟩
  rw [← hP]
  have HF : Hid (∀ V, Nw w V → P (.returned (.bool true)) V) := fun V hV => by rw [hP]; exact ⟨rfl, hV⟩
  clear hP
  have hN0 : Nw w (w.alloc (.cells (stC e p (.slice a b.length c)) 31)) := (Fr.refl _ _).alloc _
  have HL0 : Ls w e p (.slice a b.length c) (w.alloc (.cells (stC e p (.slice a b.length c)) 31)) := ⟨heap_alloc_new _ _, hN0⟩
  have H1 : Hid (Calls Try.prog 4 #[.slice a b.length c] (w.alloc (.cells (stC e p (.slice a b.length c)) 31)) fun r w' => ∃ g ca, r = .returned (.tuple #[.slice (some ⟨g, 0, none⟩) b.length ca, .slice (some ⟨g, 0, none⟩) (b.length + 32) ca]) ∧ Ls w e p (.slice a b.length c) w' ∧ Ow g (.slice (some ⟨g, 0, none⟩) (b.length + 32) ca) (b ++ marks 32) w') := by
    show Calls _ _ _ _ _
    refine (lent_any _ _ b (hb.later hN0) hbl).mono ?_
    rintro r w' ⟨g, ca, rfl, _, hO, hN⟩
    exact ⟨g, ca, rfl, HL0.on hN, hO⟩
  have H2 : Hid (∀ a0 n c0 V, n = b.length → Nw w V → Calls Try.prog 5 #[.agg e.C, .slice a0 n c0, .agg p.C] V fun r w' => r = .returned (.int .i64 ((chkF e b.length p : Nat) : Int)) ∧ Nw V w') := fun a0 n c0 V hn' hV => by
    subst hn'; exact acheck_any V e p hn hl a0 _ c0 hbl
  have H3 : Hid (∀ V, Calls Try.prog 6 #[.agg e.C, .slice a b.length c, .agg p.C] V fun r w' => r = .returned (.int .i64 ((chkF e b.length p : Nat) : Int)) ∧ Nw V w') := fun V => rcheck_any V e p hn hl a _ c hbl
  have H4 : Hid (∀ g ca V, Ow g (.slice (some ⟨g, 0, none⟩) (b.length + 32) ca) (b ++ marks 32) V → Nw w V → Calls Try.prog 7 #[.slice (some ⟨g, 0, none⟩) (b.length + 32) ca, .slice a b.length c] V fun r w' => r = .returned (.bool true) ∧ Nw V w') := fun g ca V hO hV => kept_any V g ca _ b hO ((hb.later hV).mono (fun _ h => h.elim)) hbl
  have H5 : Hid (∀ V, Calls Try.prog 5 #[.agg dotsE.C, .slice none 0 0, .agg zeroP.C] V fun r w' => r = .returned (.int .i64 92) ∧ Nw V w') := fun V => by
    have := acheck_any V dotsE zeroP (by decide) (by decide) none 0 0 (by decide)
    rw [dots_chk] at this
    exact this
  have KC : Hid (∀ V, Ls w e p (.slice a b.length c) V → _) := fun V h => And.intro (ls_cells h) (tHid h)
  unfold LsC at KC
  clear hN0 HL0 hb hbl hn hl
  generalize hz : ((chkF e b.length p : Nat) : Int) = z at *
  clear hz
  unfold dotsE zeroP at H5
  unfold Ae.C Ap.C at H2 H3 H5
  rw [mk_dots19, mk_nil19] at H5
  unfold stC at *
  go_enter Try.func3, Try.ntmps3
  go_wp2_with (first
    | (go_at_call 4; with_reducible refine H1.out.mono ?_; rintro r w2 ⟨g, ca, rfl, K2', hO'⟩; obtain ⟨⟨_, _, _, _, _, _, _, _, _, _, _, _, _, _, _, _, _⟩, K2⟩ := KC.out _ K2'; have hO := tHid hO')
    | (go_at_call 5; with_reducible refine (H2.out _ _ _ _ rfl K2.out.nw).mono ?_; rintro r w3 ⟨rfl, N3⟩; obtain ⟨⟨_, _, _, _, _, _, _, _, _, _, _, _, _, _, _, _, _⟩, K3⟩ := KC.out _ (K2.out.on N3); have hO3 := tHid (hO.out.nw N3))
    | (go_at_call 6; with_reducible refine (H3.out _).mono ?_; rintro r w4 ⟨rfl, N4⟩; obtain ⟨⟨_, _, _, _, _, _, _, _, _, _, _, _, _, _, _, _, _⟩, K4⟩ := KC.out _ (K3.out.on N4); have hO4 := tHid (hO3.out.nw N4))
    | (go_at_call 7; with_reducible refine (H4.out _ _ _ hO4.out K4.out.nw).mono ?_; rintro r w5 ⟨rfl, N5⟩; have K5 := tHid (K4.out.on N5))
    | (go_at_call 5; with_reducible refine (H5.out _).mono ?_; rintro r w6 ⟨rfl, N6⟩))
  exact HF.out _ (K5.out.nw.trans N6)
end Go.Proofs.Ytoplhkpbicgceaa
