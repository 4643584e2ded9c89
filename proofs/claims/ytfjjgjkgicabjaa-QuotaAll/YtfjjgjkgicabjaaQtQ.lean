import Derived.Test.YtfjjgjkgicabjaaQtP
namespace Go.Proofs.Ytfjjgjkgicabjaa
open Go.RowKit Go.MuLone
set_option linter.unusedVariables false
/-- The cells of an order. -/
theorem op_at {X : Nat → Prop} {a : Option Addr} {n c : Nat} {l : List (Int × En)} {w : World} (h : SlR RO X (.slice a n c) l w) (i : Nat) (hx : i < l.length) : ∃ g o, a = some ⟨g, o, none⟩ ∧ w.cell? ⟨g, o + i * 13, none⟩ = some (.int .i64 (l[i]).1) ∧ w.cell? ⟨g, o + i * 13 + 1, none⟩ = some (.string (mk (l[i]).2.name)) ∧ w.cell? ⟨g, o + i * 13 + 2, none⟩ = some (.int .i64 (l[i]).2.kind) ∧ w.cell? ⟨g, o + i * 13 + 3, none⟩ = some (.int .u32 (l[i]).2.mode) ∧ w.cell? ⟨g, o + i * 13 + 4, none⟩ = some (.int .u32 (l[i]).2.uid) ∧ w.cell? ⟨g, o + i * 13 + 5, none⟩ = some (.int .u32 (l[i]).2.gid) ∧ w.cell? ⟨g, o + i * 13 + 6, none⟩ = some (.int .i64 (l[i]).2.time) ∧ w.cell? ⟨g, o + i * 13 + 7, none⟩ = some (.int .i32 (l[i]).2.nano) ∧ w.cell? ⟨g, o + i * 13 + 8, none⟩ = some (.string (l[i]).2.user) ∧ w.cell? ⟨g, o + i * 13 + 9, none⟩ = some (.string (l[i]).2.group) ∧ w.cell? ⟨g, o + i * 13 + 10, none⟩ = some (.string (l[i]).2.link) ∧ w.cell? ⟨g, o + i * 13 + 11, none⟩ = some (.int .i64 (l[i]).2.size) ∧ w.cell? ⟨g, o + i * 13 + 12, none⟩ = some (.int .u8 (l[i]).2.typ) := by
  obtain ⟨g, o, e, hg, hc⟩ := h.at i l[i] (List.getElem?_eq_getElem hx)
  exact ⟨g, o, e, hc 0 _ rfl, hc 1 _ rfl, hc 2 _ rfl, hc 3 _ rfl, hc 4 _ rfl, hc 5 _ rfl, hc 6 _ rfl, hc 7 _ rfl, hc 8 _ rfl, hc 9 _ rfl, hc 10 _ rfl, hc 11 _ rfl, hc 12 _ rfl⟩
set_option maxHeartbeats 16000000 in
set_option maxRecDepth 100000 in
theorem qall_yes (w : World) (q q2 : Qt) (hq : q.Ok) (hq2 : q2.Ok) (hc : q.can = true) (hc2 : q2.can = true) (a : Option Addr) (c : Nat) (l : List (Int × En)) (hl : SlR RO (fun k => w.heap.size ≤ k) (.slice a l.length c) l w) (hok : ∀ x ∈ l, x.2.Ok) (hlen : l.length ≤ 1099511627776)
    (ab : Option Addr) (nb cb : Nat) (hnb : nb ≤ cb) (hcb : cb < 9223372036854775808) (B : Nat → Bool) (hB : nb = 0 ∨ ∃ g o, ab = some ⟨g, o, none⟩ ∧ g < w.heap.size ∧ ∀ i, i < nb → w.cell? ⟨g, o + i, none⟩ = some (.bool (B i))) :
    Calls Try.prog 3 #[.agg q.C, .agg q2.C, .slice a l.length c, .slice ab nb cb] w fun e w' => e = .returned (.bool true) ∧ Nw w w' := by
  have H1 : Hid (∀ V, V.heap[w.heap.size + 1]? = some (.cells q2.C 23) → Nw w V → Calls Try.prog 7 #[.agg q.C] V fun e w' => ∃ pb p d, e = .returned (.tuple #[.pointer (some ⟨pb, 0, none⟩), .bool true]) ∧ Hid (Pr pb p d q ⟨0, 0⟩ w' ∧ Nw w w' ∧ w.heap.size ≤ p ∧ w.heap.size ≤ d) ∧ w'.cell? ⟨w.heap.size + 1, 0, none⟩ = some (.int .i64 q2.B) ∧ w'.cell? ⟨w.heap.size + 1, 1, none⟩ = some (.int .i64 q2.E) ∧ w'.cell? ⟨w.heap.size + 1, 2, none⟩ = some (.int .i64 q2.D)) := fun V hV hN => (made_yes V q hq hc).mono (fun e w' ⟨pb, p, d, e1, _, k2, k3, e2, e3⟩ => ⟨pb, p, d, e1, ⟨e2, hN.trans e3, Nat.le_trans hN.size k2, Nat.le_trans hN.size k3⟩, (quota_row hV e3).2⟩)
  have H2 : Hid (∀ pb p d V, Pr pb p d q ⟨0, 0⟩ V ∧ Nw w V ∧ w.heap.size ≤ p ∧ w.heap.size ≤ d → Calls Try.prog 7 #[.agg q2.C] V fun e w' => ∃ pb2 p2 d2, e = .returned (.tuple #[.pointer (some ⟨pb2, 0, none⟩), .bool true]) ∧ w'.cell? ⟨pb, 0, none⟩ = some (.pointer (some ⟨p, 0, none⟩)) ∧ w'.cell? ⟨pb2, 0, none⟩ = some (.pointer (some ⟨p2, 0, none⟩)) ∧ Hid (QA w pb p d pb2 p2 d2 q q2 ⟨0, 0⟩ ⟨0, 0⟩ w')) := fun pb p d V hV => by
    refine (made_yes V q2 hq2 hc2).mono ?_
    rintro e w' ⟨pb2, p2, d2, e1, k1, k2, k3, e2, e3⟩
    obtain ⟨v1, v2, v3, v4⟩ := hV
    have l1 : pb < V.heap.size := (Array.getElem?_eq_some_iff.1 v1.pr).1
    have l2 := v1.m.lt
    have l3 := v1.r.lt
    exact ⟨pb2, p2, d2, e1, (prb_cells (v1.nw e3).pr).1, (prb_cells e2.pr).1, ⟨v1.nw e3, e2, v2.trans e3, In0 hc, In0 hc2, v3, v4, Nat.le_trans v2.size k2, Nat.le_trans v2.size k3, V.heap.size, l1, l2, l3, k1, k2, k3⟩⟩
  have HT1 : Hid (∀ pb p d pb2 p2 d2 s s2 V, QA w pb p d pb2 p2 d2 q q2 s s2 V → Calls Try.prog 9 #[.pointer (some ⟨pb, 0, none⟩)] V fun e w' => e = .returned (.bool true) ∧ Hid (QA w pb p d pb2 p2 d2 q q2 s s2 w')) := fun pb p d pb2 p2 d2 s s2 V h => (tells_any V pb p d q s h.a h.i hq).mono (fun e w' ⟨e1, e2, e3⟩ => ⟨e1, h.on1 e2 h.i e3⟩)
  have HT2 : Hid (∀ pb p d pb2 p2 d2 s s2 V, QA w pb p d pb2 p2 d2 q q2 s s2 V → Calls Try.prog 9 #[.pointer (some ⟨pb2, 0, none⟩)] V fun e w' => e = .returned (.bool true) ∧ Hid (QA w pb p d pb2 p2 d2 q q2 s s2 w')) := fun pb p d pb2 p2 d2 s s2 V h => (tells_any V pb2 p2 d2 q2 s2 h.b h.i2 hq2).mono (fun e w' ⟨e1, e2, e3⟩ => ⟨e1, h.on2 e2 h.i2 e3⟩)
  have HS1 : Hid (∀ k (e : En), e.Ok → ∀ pb p d pb2 p2 d2 s s2 V, QA w pb p d pb2 p2 d2 q q2 s s2 V → Calls Try.prog 8 #[.pointer (some ⟨pb, 0, none⟩), .agg (opC k e)] V fun r w' => r = .returned (.bool true) ∧ ∃ s', Hid (QA w pb p d pb2 p2 d2 q q2 s' s2 w')) := fun k e he pb p d pb2 p2 d2 s s2 V h => (step_any V pb p d q s k e h.a h.i hq he).mono (fun r w' ⟨e1, e2, e3⟩ => ⟨e1, _, h.on1 e2 (opS_in h.i) e3⟩)
  have HS2 : Hid (∀ k (e : En), e.Ok → ∀ pb p d pb2 p2 d2 s s2 V, QA w pb p d pb2 p2 d2 q q2 s s2 V → Calls Try.prog 8 #[.pointer (some ⟨pb2, 0, none⟩), .agg (opC k e)] V fun r w' => r = .returned (.bool true) ∧ ∃ s', Hid (QA w pb p d pb2 p2 d2 q q2 s s' w')) := fun k e he pb p d pb2 p2 d2 s s2 V h => (step_any V pb2 p2 d2 q2 s2 k e h.b h.i2 hq2 he).mono (fun r w' ⟨e1, e2, e3⟩ => ⟨e1, _, h.on2 e2 (opS_in h.i2) e3⟩)
  have HL : Hid (SlR RO (fun k => w.heap.size ≤ k) (.slice a l.length c) l w) := hl
  have HOK : Hid (∀ x ∈ l, x.2.Ok) := hok
  have HB := tHid hB
  obtain ⟨hc0, hc1⟩ : l.length ≤ c ∧ c < 9223372036854775808 := by
    obtain ⟨a', c', e, h1, h2, _⟩ := hl.form
    injection e with _ _ e3
    subst e3
    exact ⟨h1, h2⟩
  clear hq hq2 hc hc2 hl hok hB
  obtain ⟨N, hN⟩ : ∃ N, N = l.length := ⟨_, rfl⟩
  rw [← hN] at HL hc0 hlen ⊢
  have HN : Hid (N = l.length) := hN
  clear hN
  unfold Qt.C at *
  go_enter Try.func3, Try.ntmps3
  go_wp2_with (go_at_call 7; first
    | (with_reducible refine (H1.out _ (two_rows _ _ _).2 (((Fr.refl _ _).alloc _).alloc _)).mono ?_; rintro e w1 ⟨pb, p, d, rfl, K1, r1, r2, r3⟩)
    | (with_reducible refine (H2.out pb p d _ K1.out).mono ?_; rintro e w2 ⟨pb2, p2, d2, rfl, t1, t2, K2⟩))
  clear H1 H2 K1 r1 r2 r3 t1 t2
  go_loopg [13] N (fun kx i wr => ∃ (I : Nat) (s s2 : St), I ≤ N ∧ N - I ≤ kx ∧ i = .int .i64 I ∧ Hid (QA w pb p d pb2 p2 d2 q q2 s s2 wr))
  case atStart => exact ⟨0, _, _, by omega, by omega, rfl, K2⟩
  case round =>
    obtain ⟨I, s, s2, hI, hkx, rfl, K⟩ := hrel
    by_cases hlt : I < N
    · have hlt' : I < l.length := by have := HN.out; omega
      have hOKI := tHid (HOK.out _ (List.getElem_mem hlt'))
      obtain ⟨g, o, rfl, y0, y1, y2, y3, y4, y5, y6, y7, y8, y9, y10, y11, y12⟩ := op_at (HL.out.nw K.out.n) I hlt'
      have HB' : Hid (I < nb → ∃ gb ob, ab = some ⟨gb, ob, none⟩ ∧ wr.cell? ⟨gb, ob + I, none⟩ = some (.bool (B I))) := fun hi => by
        rcases HB.out with h | ⟨gb, ob, e1, e2, e3⟩
        · omega
        · exact ⟨gb, ob, e1, K.out.n.cell (e3 I hi)⟩
      have hS1 : Hid (∀ V, QA w pb p d pb2 p2 d2 q q2 s s2 V → _) := fun V h => HS1.out (l[I]).1 (l[I]).2 hOKI.out pb p d pb2 p2 d2 s s2 V h
      have hS2 : Hid (∀ V, QA w pb p d pb2 p2 d2 q q2 s s2 V → _) := fun V h => HS2.out (l[I]).1 (l[I]).2 hOKI.out pb p d pb2 p2 d2 s s2 V h
      clear HS1 HS2 HB HL HOK hOKI K2
      obtain ⟨x, hx⟩ : ∃ x, x = l[I] := ⟨_, rfl⟩
      rw [← hx] at y0 y1 y2 y3 y4 y5 y6 y7 y8 y9 y10 y11 y12 hS1 hS2
      clear hx hlt'
      unfold opC at hS1 hS2
      by_cases hi : I < nb
      · obtain ⟨gb, ob, rfl, hcell⟩ := HB'.out hi
        clear HB'
        have hd : decide (I < nb) = true := decide_eq_true hi
        have hi' : (I : Int) < (nb : Int) := by omega
        have hd' : decide ((I : Int) < (nb : Int)) = true := decide_eq_true hi'
        cases hb : B I
        · rw [hb] at hcell
          clear hS2 HT2
          go_wp2_with (first
            | (go_at_call 8; with_reducible refine (hS1.out _ K.out).mono ?_; rintro e w3 ⟨rfl, s', K3⟩)
            | (go_at_call 9; with_reducible refine (HT1.out _ _ _ _ _ _ _ _ _ K3.out).mono ?_; rintro e w4 ⟨rfl, K4⟩))
          go_roundg (N - (I + 1))
          case measure => omega
          case rel => exact ⟨I + 1, _, _, by omega, by omega, by first | rfl | (congr 1), K4⟩
        · rw [hb] at hcell
          clear hS1 HT1
          go_wp2_with (first
            | (go_at_call 8; with_reducible refine (hS2.out _ K.out).mono ?_; rintro e w3 ⟨rfl, s', K3⟩)
            | (go_at_call 9; with_reducible refine (HT2.out _ _ _ _ _ _ _ _ _ K3.out).mono ?_; rintro e w4 ⟨rfl, K4⟩))
          go_roundg (N - (I + 1))
          case measure => omega
          case rel => exact ⟨I + 1, _, _, by omega, by omega, by first | rfl | (congr 1), K4⟩
      · have hd : decide (I < nb) = false := decide_eq_false hi
        have hi' : ¬ (I : Int) < (nb : Int) := by omega
        have hd' : decide ((I : Int) < (nb : Int)) = false := decide_eq_false hi'
        clear hS2 HT2 HB'
        go_wp2_with (first
          | (go_at_call 8; with_reducible refine (hS1.out _ K.out).mono ?_; rintro e w3 ⟨rfl, s', K3⟩)
          | (go_at_call 9; with_reducible refine (HT1.out _ _ _ _ _ _ _ _ _ K3.out).mono ?_; rintro e w4 ⟨rfl, K4⟩))
        go_roundg (N - (I + 1))
        case measure => omega
        case rel => exact ⟨I + 1, _, _, by omega, by omega, by first | rfl | (congr 1), K4⟩
    · clear HS1 HS2 HB HL HOK K2
      go_wp2_with (go_at_call 9; first
        | (with_reducible refine (HT1.out _ _ _ _ _ _ _ _ _ K.out).mono ?_; rintro e w3 ⟨rfl, K3⟩)
        | (with_reducible refine (HT2.out _ _ _ _ _ _ _ _ _ K3.out).mono ?_; rintro e w4 ⟨rfl, K4⟩))
      go_ret
      exact ⟨rfl, K4.out.n⟩
theorem qall_any (w : World) (q q2 : Qt) (hq : q.Ok) (hq2 : q2.Ok) (a : Option Addr) (c : Nat) (l : List (Int × En)) (hl : SlR RO (fun k => w.heap.size ≤ k) (.slice a l.length c) l w) (hok : ∀ x ∈ l, x.2.Ok) (hlen : l.length ≤ 1099511627776)
    (ab : Option Addr) (nb cb : Nat) (hnb : nb ≤ cb) (hcb : cb < 9223372036854775808) (B : Nat → Bool) (hB : nb = 0 ∨ ∃ g o, ab = some ⟨g, o, none⟩ ∧ g < w.heap.size ∧ ∀ i, i < nb → w.cell? ⟨g, o + i, none⟩ = some (.bool (B i))) :
    Calls Try.prog 3 #[.agg q.C, .agg q2.C, .slice a l.length c, .slice ab nb cb] w fun e w' => e = .returned (.bool true) ∧ Nw w w' := by
  by_cases hc : q.can = true
  · by_cases hc2 : q2.can = true
    · exact qall_yes w q q2 hq hq2 hc hc2 a c l hl hok hlen ab nb cb hnb hcb B hB
    · exact qall_no2 w q q2 hq hq2 hc (by simpa using hc2) _ _
  · exact qall_no1 w q q2 hq hq2 (by simpa using hc) _ _
end Go.Proofs.Ytfjjgjkgicabjaa
