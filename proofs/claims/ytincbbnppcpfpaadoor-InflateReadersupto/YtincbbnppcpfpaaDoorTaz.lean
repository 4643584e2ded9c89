import Derived.Test.YtincbbnppcpfpaaDoorTay
namespace Go.Proofs.YtincbbnppcpfpaaDoor
open Go.RowKit
set_option linter.unusedVariables false
variable {sb rb : Nat} {K : Nat → Prop} {v : Value} {b : List By} {p : Nat} {w : World} {sm : List Nat} {N lb : Nat} {r0 : Rz (List Nat × Bt)} {p' : Nat} {ol : Option Nat} {k : Nat} {l : List Nat} {W : World}
/-- The closure is called: more of one length. -/
theorem LnI.rep {p2 k' x n : Nat} {r1 : Rz (List Nat × Bt)} {q1 q2 : Nat} (hK : ∀ k, K k → k < w.heap.size) (hlb : w.heap.size ≤ lb) (hrb : rb < w.heap.size) (hsb : sb < w.heap.size) (h : LnI sb rb K v b w sm N lb r1 q1 ol q2 l W) (hr : r0 = lensR sm N k' (l ++ List.replicate n x) (bt b p2)) (hk : N ≤ l.length + k' + 1) (hL : Lt sb rb (fun k => ¬ K k) v b p2 W) (hx : x ≤ 15) (hn : 1 ≤ n) (hn2 : n ≤ 1000) (hl : l.length ≤ 1000) :
    Calls Tryd.prog 87 #[.int .i64 x, .int .i64 n, .pointer (some ⟨lb, 0, none⟩)] W fun e V => (∃ r, e = .returned r) ∧ ∃ ol', LnI sb rb K v b w sm N lb r0 p2 ol' k' (l ++ List.replicate n x) V := by
  refine (rep_any h.ln (by omega) x n hn hn2).mono ?_
  rintro e V ⟨h1, ol', h2, h3, h4⟩
  exact ⟨h1, ol', h.next hK hlb hrb hsb hr (by simp; omega) hL (fun y hy => by rw [(List.mem_replicate.1 hy).2]; exact hx) h2 h3 h4⟩
/-- The reader has gone on; the lengths are as they were. -/
theorem LnI.read {p2 : Nat} {V : World} (h : LnI sb rb K v b w sm N lb r0 p' ol k l W) (hlb : w.heap.size ≤ lb) (hrb : rb < w.heap.size) (hL : Lt sb rb (fun k => ¬ K k) v b p2 V) (hF : Fr (fun k => k = rb) W V) : LnI sb rb K v b w sm N lb (lensR sm N k l (bt b p2)) p2 ol k l V :=
  ⟨rfl, h.k1, hL, h.ln.kept hF (fun e => by omega) (fun g hg e => by have := h.og g hg; omega), h.og, h.fr.trans hF, h.each⟩
theorem LnI.cell (h : LnI sb rb K v b w sm N lb r0 p' ol k l W) : ∃ a c, W.cell? ⟨lb, 0, none⟩ = some (.slice a l.length c) ∧ W.frozen? ⟨lb, 0, none⟩ = false ∧ l.length ≤ c ∧ c < 9223372036854775808 ∧ (∀ V, Nw W V → V.cell? ⟨lb, 0, none⟩ = some (.slice a l.length c)) ∧ (l.length ≠ 0 → ∃ g, a = some ⟨g, 0, none⟩ ∧ w.heap.size ≤ g ∧ ∀ V, Nw W V → V.cell? ⟨g, l.length - 1, none⟩ = some (.int .i64 (lastL l : Nat))) := by
  obtain ⟨vl, h1, h2⟩ := h.ln.row
  obtain ⟨a, c, rfl, h3, h4⟩ := h2.form
  rw [toI_length] at h1 h2 h3
  refine ⟨a, c, (row_cell h1 0 _ rfl).1, (row_cell h1 0 (.slice a l.length c) rfl).2, h3, h4, fun V hV => (row_cell (hV.heap h1) 0 _ rfl).1, fun hl => ?_⟩
  cases ol with
  | none =>
    have := h2.2
    have e := toI_length l
    rw [this] at e
    simp at e
    omega
  | some g =>
    have h5 : OwR RI g (.slice a l.length c) (toI l) W := h2
    obtain ⟨c', e, _, _⟩ := h5.form
    injection e with e1 _ _
    refine ⟨g, e1, h.og g rfl, fun V hV => ?_⟩
    have := ((h5.nw hV).cell riOk (l.length - 1) 0 _ _ (toI_at l (l.length - 1) (by omega)) rfl).1
    rw [show RI.k = 1 from rfl, Nat.mul_one, Nat.add_zero] at this
    exact this
/-- A number, and then so many of one length. -/
theorem LnI.num_bad {n y q1 q2 : Nat} {r1 : Rz (List Nat × Bt)} {f : Nat → Rdr (List Nat)} (h : LnI sb rb K v b w sm N lb r1 q1 ol q2 l W) (hr : r0 = bindR (takeR n) f (bt b q1)) (hq : takeR n (bt b q1) = .bad y) (hn : n ≤ 7) (z : Int) (hz : z = n) {P : Ending → World → Prop} (BAD : ∀ y W, r0 = .bad y → Fr (fun k => k = rb) w W → P (gv y) W) :
    Calls Tryd.prog 60 #[.pointer (some ⟨sb, 0, none⟩), .int .i64 z] W fun e V => e = gv y ∧ Hid (P (gv y) V) := by
  refine (jnumber_any h.lt n (by omega) z hz).mono (fun e V hh => ?_)
  obtain ⟨h2, h3⟩ := hh.isBad hq
  exact ⟨h2, BAD y V (by rw [hr]; exact bindR_bad hq) (h.fr.trans h3)⟩
theorem LnI.num_ok {n base x k' q1 q2 vv : Nat} {t : Bt} {r1 : Rz (List Nat × Bt)} (hK : ∀ k, K k → k < w.heap.size) (hlb : w.heap.size ≤ lb) (hrb : rb < w.heap.size) (hsb : sb < w.heap.size) (h : LnI sb rb K v b w sm N lb r1 q1 ol q2 l W) (hr : r0 = bindR (takeR n) (fun v => lensR sm N k' (l ++ List.replicate (base + v) x)) (bt b q1)) (hk : N ≤ l.length + k' + 1) (hx : x ≤ 15) (hb : 1 ≤ base) (hb2 : base ≤ 20) (hn : n ≤ 7) (hl : l.length ≤ 500) (z : Int) (hz : z = n) (hq : takeR n (bt b q1) = .ok (vv, t)) :
    Calls Tryd.prog 60 #[.pointer (some ⟨sb, 0, none⟩), .int .i64 z] W fun e V => e = .returned (.int .i64 vv) ∧ Hid (Fr (fun k => k = rb) W V) ∧ Hid (Calls Tryd.prog 87 #[.int .i64 x, .int .i64 (base + vv : Nat), .pointer (some ⟨lb, 0, none⟩)] V fun e U => (∃ r, e = .returned r) ∧ Hid (∃ p2 ol', LnI sb rb K v b w sm N lb r0 p2 ol' k' (l ++ List.replicate (base + vv) x) U)) := by
  refine (jnumber_any h.lt n (by omega) z hz).mono (fun e V hh => ?_)
  obtain ⟨p2, h1, h2, h3, h4⟩ := hh.isOk hq
  have hvv : vv < 2 ^ 7 := Nat.lt_of_lt_of_le (takeR_lt hq) (Nat.pow_le_pow_right (by decide) hn)
  have hI := h.read hlb hrb h3 h4
  have hvv2 : vv < 128 := hvv
  refine ⟨h2, h4, ?_⟩
  refine (hI.rep hK hlb hrb hsb (r0 := r0) (k' := k') (p2 := p2) (by rw [hr, bindR_eq hq, h1]) hk h3 hx (by omega) (by omega) (by omega)).mono ?_
  rintro e U ⟨a1, ol', a2⟩
  exact ⟨a1, p2, ol', a2⟩
theorem takeR_le7 {n x : Nat} {t t' : Bt} (h : takeR n t = .ok (x, t')) (hn : n ≤ 7) : x ≤ 127 := by
  have : x < 2 ^ 7 := Nat.lt_of_lt_of_le (takeR_lt h) (Nat.pow_le_pow_right (by decide) hn)
  have : x < 128 := this
  omega
set_option maxHeartbeats 32000000 in
set_option maxRecDepth 100000 in
theorem lengths_any {C : Nat → Prop} {u : Option Addr} (h : Lt sb rb (fun k => ¬ K k) v b p w) (hK : ∀ k, K k → k < w.heap.size) (hc : CodV C (.pointer u) sm w) (hC : ¬ C rb) (hs : sm.length ≤ 19) (hN1 : 1 ≤ N) (hN2 : N ≤ 320) :
    Calls Tryd.prog 77 #[.pointer (some ⟨sb, 0, none⟩), .pointer u, .int .i64 N] w (Lnd sb rb K v b w (lensR sm N N [] (bt b p))) := by
  obtain ⟨P, hP⟩ : ∃ P : Ending → World → Prop, P = Lnd sb rb K v b w (lensR sm N N [] (bt b p)) := ⟨_, rfl⟩
  rw [← hP]
  obtain ⟨r0, hr0⟩ : ∃ r0, r0 = lensR sm N N [] (bt b p) := ⟨_, rfl⟩
  have hrb : rb < w.heap.size := h.rr.lt
  have hsb : sb < w.heap.size := World.block_lt_of_cell? _ _ h.c0
  have HX : Hid ((∀ k, K k → k < w.heap.size) ∧ rb < w.heap.size ∧ sb < w.heap.size) := ⟨hK, hrb, hsb⟩
  have hN0 : Nw w (w.alloc (.cells #[.slice none 0 0] 42)) := (Fr.refl _ _).alloc _
  have HI0 : Hid (LnI sb rb K v b w sm N w.heap.size r0 p none N [] (w.alloc (.cells #[.slice none 0 0] 42))) :=
    ⟨hr0, by simp, h.nw hN0, ⟨⟨_, new_heap _ _, rfl, rfl⟩, by simp⟩, fun g hg => (by cases hg), hN0.any, fun i => by simp⟩
  have BAD : Hid (∀ y W, r0 = .bad y → Fr (fun k => k = rb) w W → P (gv y) W) := fun y W h1 h2 => by
    rw [hP]; exact .inl ⟨y, by rw [← hr0]; exact h1, rfl, h2⟩
  have HWD : Hid (∀ p' W, Lt sb rb (fun k => ¬ K k) v b p' W → Fr (fun k => k = rb) w W → Calls Tryd.prog 68 #[.pointer (some ⟨sb, 0, none⟩), .pointer u] W (Ri sb rb (fun k => ¬ K k) v b W (symR sm (bt b p')))) := fun p' W h1 h2 => jword_any h1 (hc.kept h2 (fun k hk e => hC (by rw [← e]; exact hk))) hC
  have DONE : Hid (∀ p' ol k l W, LnI sb rb K v b w sm N w.heap.size r0 p' ol k l W → l.length = N → ∀ a c, W.cell? ⟨w.heap.size, 0, none⟩ = some (.slice a N c) → P (.returned (.slice a N c)) W) := fun p' ol k l W hI hl a c hcell => by
    rw [hP]
    have hr := hI.r
    rw [lensR_ge (by omega), if_neg (by omega)] at hr
    obtain ⟨vl, h1, h2⟩ := hI.ln.row
    have e1 := (row_cell h1 0 _ rfl).1
    rw [hcell] at e1
    injection e1 with e1
    subst e1
    cases hol : ol with
    | none =>
      rw [hol] at h2
      have := h2.2
      have e := toI_length l
      rw [this] at e
      simp at e
      omega
    | some g =>
      have h5 : OwR RI g (.slice a N c) (toI l) W := by rw [hol] at h2; exact h2
      obtain ⟨c', e, _, _⟩ := h5.form
      injection e with e1 _ _
      subst e1
      refine .inr ⟨l, p', g, c, ?_, by rw [hl], by rw [hl]; exact h5, hI.og g hol, hI.each, hI.lt, hI.fr⟩
      rw [← hr0, hr]; rfl
  have HG : Hid (∀ V, Calls Tryd.prog 64 #[.int .i64 62] V fun e w' => e = gv 62 ∧ V = w') := fun V => (giveUp_any 62 V).mono (fun e w' ⟨a1, a2⟩ => ⟨a1, a2.symm⟩)
  have hmf : ∀ (fn : Fn) (first cap : Array Value) (w : World), (Instr.makeFunc fn first cap).run Tryd.prog w = .ok (.func fn first cap) w := fun _ _ _ _ => rfl
  clear hP h hK hc hC hr0 hN0
  obtain ⟨lb, hlb⟩ : ∃ lb, lb = w.heap.size := ⟨_, rfl⟩
  have HLB : Hid (lb = w.heap.size) := hlb
  rw [← hlb] at HI0 DONE
  obtain ⟨W1, hW1⟩ : ∃ W1, w.alloc (.cells #[.slice none 0 0] 42) = W1 := ⟨_, rfl⟩
  rw [hW1] at HI0
  clear hlb hrb hsb
  go_enter Tryd.func77, Tryd.ntmps77
  go_wp2_with fail
  rw [← HLB.out]
  go_loopg [9] N (fun kx i wr => ∃ p' ol k l, N - l.length ≤ kx ∧ l.length ≤ N + 150 ∧ Hid (LnI sb rb K v b w sm N lb r0 p' ol k l wr))
  case atStart => exact ⟨p, none, N, [], by simp, by simp, HI0⟩
  case round =>
    obtain ⟨p', ol, k, l, hkx, hl2, HI⟩ := hrel
    clear HI0 hW1
    obtain ⟨a, c, c0, c1, hca, hcb, hcV, hlast⟩ := HI.out.cell
    have HLA : Hid (l.length ≠ 0 → ∃ g, a = some ⟨g, 0, none⟩ ∧ w.heap.size ≤ g ∧ ∀ V, Nw wr V → V.cell? ⟨g, l.length - 1, none⟩ = some (.int .i64 (lastL l : Nat))) := hlast
    have HCV : Hid (∀ V, Nw wr V → V.cell? ⟨lb, 0, none⟩ = some (.slice a l.length c)) := hcV
    clear hlast hcV
    by_cases hlt : l.length < N
    · have hz : (l.length : Int) < (N : Int) := by omega
      have HW : Hid (Calls Tryd.prog 68 #[.pointer (some ⟨sb, 0, none⟩), .pointer u] wr (Ri sb rb (fun k => ¬ K k) v b wr (symR sm (bt b p')))) := HWD.out p' wr HI.out.lt HI.out.fr
      obtain ⟨k', hk', hLR⟩ := lensR_lt (sm := sm) (t := bt b p') hlt HI.out.k1
      have HLR : Hid (r0 = bindR (symR sm) (fun y =>
        if y = 16 then (if l.length = 0 then failR 62 else bindR (takeR 2) fun v => lensR sm N k' (l ++ List.replicate (3 + v) (lastL l)))
        else if y = 17 then bindR (takeR 3) fun v => lensR sm N k' (l ++ List.replicate (3 + v) 0)
        else if y = 18 then bindR (takeR 7) fun v => lensR sm N k' (l ++ List.replicate (11 + v) 0)
        else lensR sm N k' (l ++ [y])) (bt b p')) := by
        show _ = _
        rw [HI.out.r, hLR]
      have hkN : Hid (N ≤ l.length + k' + 1) := by
        have := HI.out.k1
        show _ ≤ _
        omega
      have hlastl : lastL l ≤ 15 := HI.out.each _
      clear hLR hk' HWD DONE
      go_wp2_with fail
      go_at_call 68
      with_reducible refine HW.out.mono ?_
      unfold Ri
      rintro e w1 (⟨y, h1, rfl, h3⟩ | ⟨y, p1, h1, rfl, h3, h4⟩)
      · exact ⟨rfl, BAD.out y w1 (by rw [HLR.out]; exact bindR_bad h1) (HI.out.fr.trans h3)⟩
      · have hy19 : y < 19 := by
          have := (symR_lt h1).1
          omega
        have hrr : r0 = (if y = 16 then (if l.length = 0 then failR 62 else bindR (takeR 2) fun v => lensR sm N k' (l ++ List.replicate (3 + v) (lastL l)))
          else if y = 17 then bindR (takeR 3) fun v => lensR sm N k' (l ++ List.replicate (3 + v) 0)
          else if y = 18 then bindR (takeR 7) fun v => lensR sm N k' (l ++ List.replicate (11 + v) 0)
          else lensR sm N k' (l ++ [y])) (bt b p1) := by rw [HLR.out]; exact bindR_eq h1
        obtain ⟨xK, xrb, xsb⟩ := HX.out
        have xlb : w.heap.size ≤ lb := by rw [HLB.out]; exact Nat.le_refl _
        have hI1 := HI.out.read xlb xrb h3 h4
        obtain ⟨a1, c1', d0, d1, hd1, hd2, hdV, hdl⟩ := hI1.cell
        clear HW HLR HI HLA HCV c0 c1 hca hcb h1 h4
        by_cases hy16 : y = 16
        · rw [if_pos hy16] at hrr
          have hyz : ((y : Int) == 16) = true := by simp; omega
          by_cases hl0 : l.length = 0
          · rw [if_pos hl0] at hrr
            have HF : Hid (P (gv 62) w1) := BAD.out 62 w1 hrr hI1.fr
            have hlz : ((l.length : Int) == 0) = true := by rw [hl0]; rfl
            clear hI1 hdV hdl hrr BAD HX hy16 hl0
            generalize l.length = L at *
            go_wp2_with (first | (go_at_call 64; (with_reducible refine (HG.out _).mono ?_); rintro e w4 ⟨rfl, rfl⟩))
            exact ⟨rfl, HF.out⟩
          · rw [if_neg hl0] at hrr
            have hlz : ((l.length : Int) == 0) = false := by
              simp only [beq_eq_false_iff_ne, ne_eq]; omega
            obtain ⟨g, rfl, hgw, hdg⟩ := hdl hl0
            have hd3 := hdg w1 (Fr.refl _ _)
            have hNN : Nw w1 w1 := Fr.refl _ _
            have hsub : (l.length : Int) - 1 = ((l.length - 1 : Nat) : Int) := by omega
            have hsl : ((l.length - 1 : Nat) : Int) < (l.length : Int) := by omega
            have hLp : l.length ≤ 470 := by omega
            have hwr : IntKind.i64.wrap ((l.length : Int) - 1) = ((l.length - 1 : Nat) : Int) := by rw [hsub]; exact w64 _ (by omega)
            have hq0 : (0 : Int) ≤ ((l.length - 1 : Nat) : Int) := by omega
            have hwr2 : IntKind.i64.wrap ((l.length - 1 : Nat) : Int) = ((l.length - 1 : Nat) : Int) := w64 _ (by omega)
            have HI2 : Hid (∀ V, Nw w1 V → LnI sb rb K v b w sm N lb (lensR sm N k l (bt b p1)) p1 ol k l V) := fun V hV => ⟨rfl, hI1.k1, hI1.lt.nw hV, hI1.ln.nw hV, hI1.og, hI1.fr.trans hV.any, hI1.each⟩
            cases hq : takeR 2 (bt b p1) with
            | bad q =>
              have HN : Hid (∀ V, Nw w1 V → Calls Tryd.prog 60 #[.pointer (some ⟨sb, 0, none⟩), .int .i64 2] V fun e V => e = gv q ∧ Hid (P (gv q) V)) := fun V hV => (HI2.out V hV).num_bad hrr hq (by omega) 2 rfl BAD.out
              have HDV : Hid (∀ V, Nw w1 V → V.cell? ⟨lb, 0, none⟩ = some (.slice (some ⟨g, 0, none⟩) l.length c1') ∧ V.cell? ⟨g, l.length - 1, none⟩ = some (.int .i64 (lastL l : Nat))) := fun V hV => ⟨hdV V hV, hdg V hV⟩
              clear HI2 hI1 hdV hdl hdg hrr BAD HX hy16 hq hl0
              generalize lastL l = xl at *
              generalize hL1 : l.length - 1 = L1 at *
              clear hL1
              generalize l.length = L at *
              go_wp2_with fail
              go_region_with (first
                | (go_at_call 60; with_reducible refine (HN.out _ ?_).mono ?_; (first | assumption | exact (Fr.refl _ _).drew | exact Fr.refl _ _ | exact (Fr.refl _ _).drewN _); rintro e w3 ⟨rfl, HF⟩; (try dsimp only); apply idle_of ⟨rfl, HF.out⟩; unfold Idle))
              all_goals trivial
            | ok rr =>
              obtain ⟨vv, t2⟩ := rr
              have hvv := takeR_le7 hq (by omega)
              have HN : Hid (∀ V, Nw w1 V → Calls Tryd.prog 60 #[.pointer (some ⟨sb, 0, none⟩), .int .i64 2] V fun e V2 => e = .returned (.int .i64 vv) ∧ V2.cell? ⟨lb, 0, none⟩ = some (.slice (some ⟨g, 0, none⟩) l.length c1') ∧ V2.cell? ⟨g, l.length - 1, none⟩ = some (.int .i64 (lastL l : Nat)) ∧ Hid (Calls Tryd.prog 87 #[.int .i64 (lastL l), .int .i64 (3 + vv : Nat), .pointer (some ⟨lb, 0, none⟩)] V2 fun e U => (∃ r, e = .returned r) ∧ Hid (∃ p' ol k l', N - l'.length ≤ N - (l.length + 1) ∧ l'.length ≤ N + 150 ∧ Hid (LnI sb rb K v b w sm N lb r0 p' ol k l' U)))) := fun V hV => by
                refine ((HI2.out V hV).num_ok xK xlb xrb xsb hrr hkN.out hlastl (by omega) (by omega) (by omega) (by omega) 2 rfl hq).mono ?_
                rintro e V2 ⟨e1, e2, e3⟩
                refine ⟨e1, e2.out.cellv (hdV V hV) (fun e => by simp only at e; omega), e2.out.cellv (hdg V hV) (fun e => by simp only at e; omega), ?_⟩
                refine e3.out.mono (fun e U ⟨f1, f2⟩ => ⟨f1, ?_⟩)
                obtain ⟨p2, ol', hh⟩ := f2.out
                exact ⟨p2, ol', k', _, by simp; omega, by simp; omega, hh⟩
              have hsum : (3 : Int) + (vv : Int) = ((3 + vv : Nat) : Int) := by omega
              have hwr3 : IntKind.i64.wrap ((3 : Int) + (vv : Int)) = ((3 + vv : Nat) : Int) := by rw [hsum]; exact w64 _ (by omega)
              have hgk : N - (l.length + 1) < gk := by omega
              obtain ⟨kn, hkn⟩ : ∃ kn, kn = N - (l.length + 1) := ⟨_, rfl⟩
              rw [← hkn] at HN hgk
              clear HI2 hI1 hdV hdl hdg hrr BAD HX hy16 hq hl0 hkx hl2 hkN hkn hlt
              generalize hn3 : 3 + vv = n3 at *
              have hn3b : n3 ≤ 130 := by omega
              have hwr4 : IntKind.i64.wrap (n3 : Int) = (n3 : Int) := w64 _ (by omega)
              clear hn3
              generalize lastL l = xl at *
              generalize hL1 : l.length - 1 = L1 at *
              clear hL1
              generalize l.length = L at *
              go_wp2_with fail
              go_region_with (first
                | (go_at_call 60; with_reducible refine (HN.out _ ?_).mono ?_; (first | assumption | exact (Fr.refl _ _).drew | exact Fr.refl _ _ | exact (Fr.refl _ _).drewN _); rintro e w3 ⟨rfl, x0, x1, HC⟩)
                | (go_at_call 87; with_reducible refine HC.out.mono ?_; rintro e w4 ⟨⟨r, rfl⟩, HE⟩))
              all_goals go_wp2_with fail
              all_goals go_roundg kn
              all_goals (first | omega | exact HE.out)
        · rw [if_neg hy16] at hrr
          have hyz : ((y : Int) == 16) = false := by
            simp only [beq_eq_false_iff_ne, ne_eq]; omega
          by_cases hy17 : y = 17
          · rw [if_pos hy17] at hrr
            have hyz2 : ((y : Int) == 17) = true := by rw [hy17]; rfl
            clear hy16 hy17
            cases hq : takeR 3 (bt b p1) with
            | bad q =>
              have HN : Hid (Calls Tryd.prog 60 #[.pointer (some ⟨sb, 0, none⟩), .int .i64 3] w1 fun e V => e = gv q ∧ Hid (P (gv q) V)) := hI1.num_bad hrr hq (by omega) 3 rfl BAD.out
              clear hI1 hdV hdl hrr BAD HX hq
              generalize l.length = L at *
              go_wp2_with (first | (go_at_call 60; (with_reducible refine HN.out.mono ?_); rintro e w3 ⟨rfl, HF⟩))
              exact ⟨rfl, HF.out⟩
            | ok rr =>
              obtain ⟨vv, t2⟩ := rr
              have hvv := takeR_le7 hq (by omega)
              have HN : Hid (Calls Tryd.prog 60 #[.pointer (some ⟨sb, 0, none⟩), .int .i64 3] w1 fun e V2 => e = .returned (.int .i64 vv) ∧ Hid (Calls Tryd.prog 87 #[.int .i64 0, .int .i64 (3 + vv : Nat), .pointer (some ⟨lb, 0, none⟩)] V2 fun e U => (∃ r, e = .returned r) ∧ Hid (∃ p' ol k l', N - l'.length ≤ N - (l.length + 1) ∧ l'.length ≤ N + 150 ∧ Hid (LnI sb rb K v b w sm N lb r0 p' ol k l' U)))) := by
                refine (hI1.num_ok xK xlb xrb xsb hrr hkN.out (Nat.zero_le _) (by omega) (by omega) (by omega) (by omega) 3 rfl hq).mono ?_
                rintro e V2 ⟨e1, e2, e3⟩
                refine ⟨e1, e3.out.mono (fun e U ⟨f1, f2⟩ => ⟨f1, ?_⟩)⟩
                obtain ⟨p2, ol', hh⟩ := f2.out
                exact ⟨p2, ol', k', _, by simp; omega, by simp; omega, hh⟩
              have hsum : (3 : Int) + (vv : Int) = ((3 + vv : Nat) : Int) := by omega
              have hgk : N - (l.length + 1) < gk := by omega
              obtain ⟨kn, hkn⟩ : ∃ kn, kn = N - (l.length + 1) := ⟨_, rfl⟩
              rw [← hkn] at HN hgk
              have hn3b : 3 + vv ≤ 140 := by omega
              clear hI1 hdV hdl hrr BAD HX hq hkx hl2 hkN hkn hlt
              generalize 3 + vv = n3 at *
              generalize l.length = L at *
              go_wp2_with (first | (go_at_call 60; (with_reducible refine HN.out.mono ?_); rintro e w3 ⟨rfl, HC⟩) | (go_at_call 87; (with_reducible refine HC.out.mono ?_); rintro e w4 ⟨⟨r, rfl⟩, HE⟩))
              go_roundg kn
              all_goals (first | omega | exact HE.out)
          · rw [if_neg hy17] at hrr
            have hyz2 : ((y : Int) == 17) = false := by
              simp only [beq_eq_false_iff_ne, ne_eq]; omega
            by_cases hy18 : y = 18
            · rw [if_pos hy18] at hrr
              have hyz3 : ((y : Int) == 18) = true := by rw [hy18]; rfl
              clear hy16 hy17 hy18
              cases hq : takeR 7 (bt b p1) with
              | bad q =>
                have HN : Hid (Calls Tryd.prog 60 #[.pointer (some ⟨sb, 0, none⟩), .int .i64 7] w1 fun e V => e = gv q ∧ Hid (P (gv q) V)) := hI1.num_bad hrr hq (by omega) 7 rfl BAD.out
                clear hI1 hdV hdl hrr BAD HX hq
                generalize l.length = L at *
                go_wp2_with (first | (go_at_call 60; (with_reducible refine HN.out.mono ?_); rintro e w3 ⟨rfl, HF⟩))
                exact ⟨rfl, HF.out⟩
              | ok rr =>
                obtain ⟨vv, t2⟩ := rr
                have hvv := takeR_le7 hq (by omega)
                have HN : Hid (Calls Tryd.prog 60 #[.pointer (some ⟨sb, 0, none⟩), .int .i64 7] w1 fun e V2 => e = .returned (.int .i64 vv) ∧ Hid (Calls Tryd.prog 87 #[.int .i64 0, .int .i64 (11 + vv : Nat), .pointer (some ⟨lb, 0, none⟩)] V2 fun e U => (∃ r, e = .returned r) ∧ Hid (∃ p' ol k l', N - l'.length ≤ N - (l.length + 1) ∧ l'.length ≤ N + 150 ∧ Hid (LnI sb rb K v b w sm N lb r0 p' ol k l' U)))) := by
                  refine (hI1.num_ok xK xlb xrb xsb hrr hkN.out (Nat.zero_le _) (by omega) (by omega) (by omega) (by omega) 7 rfl hq).mono ?_
                  rintro e V2 ⟨e1, e2, e3⟩
                  refine ⟨e1, e3.out.mono (fun e U ⟨f1, f2⟩ => ⟨f1, ?_⟩)⟩
                  obtain ⟨p2, ol', hh⟩ := f2.out
                  exact ⟨p2, ol', k', _, by simp; omega, by simp; omega, hh⟩
                have hsum : (11 : Int) + (vv : Int) = ((11 + vv : Nat) : Int) := by omega
                have hgk : N - (l.length + 1) < gk := by omega
                obtain ⟨kn, hkn⟩ : ∃ kn, kn = N - (l.length + 1) := ⟨_, rfl⟩
                rw [← hkn] at HN hgk
                have hn3b : 11 + vv ≤ 140 := by omega
                clear hI1 hdV hdl hrr BAD HX hq hkx hl2 hkN hkn hlt
                generalize 11 + vv = n3 at *
                generalize l.length = L at *
                go_wp2_with (first | (go_at_call 60; (with_reducible refine HN.out.mono ?_); rintro e w3 ⟨rfl, HC⟩) | (go_at_call 87; (with_reducible refine HC.out.mono ?_); rintro e w4 ⟨⟨r, rfl⟩, HE⟩))
                go_roundg kn
                all_goals (first | omega | exact HE.out)
            · rw [if_neg hy18] at hrr
              have hyz3 : ((y : Int) == 18) = false := by
                simp only [beq_eq_false_iff_ne, ne_eq]; omega
              have hN2' : Nw w1 (w1.alloc (.cells #[.int .i64 y] 3)) := (Fr.refl _ _).alloc _
              have hb1 := OwR.built riOk w1 [(y : Int)] #[.int .i64 y] rfl (by simp)
              obtain ⟨aa, cc, a', c', W, ol', e1, e2, HAP, e4, e5, e6⟩ := (hI1.ln.nw hN2').app (by omega) (.slice (some ⟨w1.heap.size, 0, none⟩) 1 1) [y] ((hb1.slr riOk).mono (fun _ h => h.elim)) (by simp)
              have HN : Hid (∃ p' ol k l', N - l'.length ≤ N - (l.length + 1) ∧ l'.length ≤ N + 150 ∧ Hid (LnI sb rb K v b w sm N lb r0 p' ol k l' (W.setCell ⟨lb, 0, none⟩ (.slice a' (l.length + 1) c')))) := by
                obtain ⟨q1, q2, q3⟩ := e6.out
                have hI2 : LnI sb rb K v b w sm N lb (lensR sm N k l (bt b p1)) p1 ol k l (w1.alloc (.cells #[.int .i64 y] 3)) := ⟨rfl, hI1.k1, hI1.lt.nw hN2', hI1.ln.nw hN2', hI1.og, hI1.fr.trans hN2'.any, hI1.each⟩
                refine ⟨p1, ol', k', l ++ [y], by simp, by simp; omega, hI2.next xK xlb xrb xsb hrr (by have := hkN.out; simp; omega) hI2.lt (fun x hx => by simp at hx; omega) q1 q2 q3⟩
              have hHAP : Hid (∀ ty, (Builtin.append_ #[42, 42] ty #[.slice aa l.length cc, .slice (some ⟨w1.heap.size, 0, none⟩) 1 1]).run Tryd.prog (w1.alloc (.cells #[.int .i64 y] 3)) = .ok (.slice a' (l.length + 1) c') W) := HAP
              have d00 : w1.cell? ⟨lb, 0, none⟩ = some (.slice aa l.length cc) := by
                have := hdV _ hN2'
                rw [e1] at this
                rw [d0, this]
              have hgk : N - (l.length + 1) < gk := by omega
              obtain ⟨kn, hkn⟩ : ∃ kn, kn = N - (l.length + 1) := ⟨_, rfl⟩
              rw [← hkn] at HN hgk
              clear hI1 hdV hdl hrr BAD HX hkx hl2 hkN hkn hlt HAP e6 e1 e2 d0 hN2' hb1 hy16 hy17 hy18
              generalize l.length + 1 = L2 at *
              generalize l.length = L at *
              go_wp2_with (first
                | (at_builtin; refine Lib.wpList_append_run _ rfl _ _ 42 42 rfl (.slice aa L cc) (.slice (some ⟨w1.heap.size, 0, none⟩) 1 1) (by simp [Act.eval]) (by simp [Act.eval]) _ _ (hHAP.out _) ?_))
              go_roundg kn
              all_goals (first | omega | exact HN.out)
    · have hz : ¬ (l.length : Int) < (N : Int) := by omega
      by_cases hgt : N < l.length
      · have HF : Hid (P (gv 62) wr) := BAD.out 62 wr (by rw [HI.out.r, lensR_ge (by omega), if_pos hgt]; rfl) HI.out.fr
        have hz2 : (N : Int) < (l.length : Int) := by omega
        clear HI HLA HCV HWD DONE BAD HX hkx hlt hgt
        generalize l.length = L at *
        go_wp2_with (first | (go_at_call 64; (with_reducible refine (HG.out _).mono ?_); rintro e w4 ⟨rfl, rfl⟩))
        exact ⟨rfl, HF.out⟩
      · have hle : l.length = N := by omega
        have HF : Hid (P (.returned (.slice a N c)) wr) := DONE.out p' ol k l wr HI.out hle a c (by rw [← hle]; exact c0)
        have hz2 : ¬ (N : Int) < (N : Int) := by omega
        rw [hle] at c0
        clear HI HLA HCV HWD DONE BAD HX hkx hlt hgt hz
        go_wp2_with fail
        exact HF.out
end Go.Proofs.YtincbbnppcpfpaaDoor
