import Derived.Test.YtpjnbhflnbhnoaaGreatDoorWbf
namespace Go.Proofs.YtpjnbhflnbhnoaaGreatDoor
open Go.RowKit
set_option linter.unusedVariables false
variable {sb rb : Nat} {K : Nat → Prop} {v : Value} {b : List By} {p : Nat} {w : World} {sm : List Nat} {N lb : Nat} {r0 : Rz (List Nat × Bt)} {p' : Nat} {ol : Option Nat} {k : Nat} {l : List Nat} {W : World}
/-- The closure is called: more of one length. -/
theorem LnI.rep {p2 k' x n : Nat} {r1 : Rz (List Nat × Bt)} {q1 q2 : Nat} (hK : ∀ k, K k → k < w.heap.size) (hlb : w.heap.size ≤ lb) (hrb : rb < w.heap.size) (hsb : sb < w.heap.size) (h : LnI sb rb K v b w sm N lb r1 q1 ol q2 l W) (hr : r0 = lensR sm N k' (l ++ List.replicate n x) (bt b p2)) (hk : N ≤ l.length + k' + 1) (hL : Lt sb rb (fun k => ¬ K k) v b p2 W) (hx : x ≤ 15) (hn : 1 ≤ n) (hn2 : n ≤ 1000) (hl : l.length ≤ 1000) :
    Calls Tryz.prog 215 #[.int .i64 x, .int .i64 n, .pointer (some ⟨lb, 0, none⟩)] W fun e V => (∃ r, e = .returned r) ∧ ∃ ol', LnI sb rb K v b w sm N lb r0 p2 ol' k' (l ++ List.replicate n x) V := by
  refine (rep_any h.ln (by omega) x n hn hn2).mono ?_
  rintro e V ⟨h1, ol', h2, h3, h4⟩
  exact ⟨h1, ol', h.next hK hlb hrb hsb hr (by simp; omega) hL (fun y hy => by rw [(List.mem_replicate.1 hy).2]; exact hx) h2 h3 h4⟩
/-- The reader has gone on; the lengths are as they were. -/
theorem LnI.read {p2 : Nat} {V : World} (h : LnI sb rb K v b w sm N lb r0 p' ol k l W) (hlb : w.heap.size ≤ lb) (hrb : rb < w.heap.size) (hL : Lt sb rb (fun k => ¬ K k) v b p2 V) (hF : Fr (fun k => k = rb) W V) : LnI sb rb K v b w sm N lb (lensR sm N k l (bt b p2)) p2 ol k l V :=
  ⟨rfl, h.k1, hL, h.ln.kept hF (fun e => by omega) (fun g hg e => by have := h.og g hg; omega), h.og, h.fr.trans hF, h.each⟩
theorem LnI.cell (h : LnI sb rb K v b w sm N lb r0 p' ol k l W) : ∃ a c, W.cell? ⟨lb, 0, none⟩ = some (.slice a l.length c) ∧ W.frozen? ⟨lb, 0, none⟩ = false ∧ l.length ≤ c ∧ c < 9223372036854775808 ∧ (∀ V, Nw W V → V.cell? ⟨lb, 0, none⟩ = some (.slice a l.length c)) ∧ (l.length ≠ 0 → ∃ g, a = some ⟨g, 0, none⟩ ∧ w.heap.size ≤ g ∧ ∀ V, Nw W V → V.cell? ⟨g, l.length - 1, none⟩ = some (.int .i64 (lastL l : Nat))) := by
  obtain ⟨vl, h1, h2⟩ := h.ln.row
  obtain ⟨a, c, rfl, h3, h4⟩ := h2.form
  rw [toI_length] at h1 h2 h3
  refine ⟨a, c, (row_cell h1 0 _ rfl).1, (row_cell h1 0 (.slice a l.length c) rfl).2, h3, h4, fun V hV => (row_cell (hV.heap h1) 0 _ rfl).1, fun hl => ?_⟩
  cases ol with
  | none =>
    have := h2.2
    have e := toI_length l
    rw [this] at e
    simp at e
    omega
  | some g =>
    have h5 : OwR RI g (.slice a l.length c) (toI l) W := h2
    obtain ⟨c', e, _, _⟩ := h5.form
    injection e with e1 _ _
    refine ⟨g, e1, h.og g rfl, fun V hV => ?_⟩
    have := ((h5.nw hV).cell riOk (l.length - 1) 0 _ _ (toI_at l (l.length - 1) (by omega)) rfl).1
    rw [show RI.k = 1 from rfl, Nat.mul_one, Nat.add_zero] at this
    exact this
/-- A number, and then so many of one length. -/
theorem LnI.num_bad {n y q1 q2 : Nat} {r1 : Rz (List Nat × Bt)} {f : Nat → Rdr (List Nat)} (h : LnI sb rb K v b w sm N lb r1 q1 ol q2 l W) (hr : r0 = bindR (takeR n) f (bt b q1)) (hq : takeR n (bt b q1) = .bad y) (hn : n ≤ 7) (z : Int) (hz : z = n) {P : Ending → World → Prop} (BAD : ∀ y W, r0 = .bad y → Fr (fun k => k = rb) w W → P (gv y) W) :
    Calls Tryz.prog 182 #[.pointer (some ⟨sb, 0, none⟩), .int .i64 z] W fun e V => e = gv y ∧ Hid (P (gv y) V) := by
  refine (jnumber_any h.lt n (by omega) z hz).mono (fun e V hh => ?_)
  obtain ⟨h2, h3⟩ := hh.isBad hq
  exact ⟨h2, BAD y V (by rw [hr]; exact bindR_bad hq) (h.fr.trans h3)⟩
theorem LnI.num_ok {n base x k' q1 q2 vv : Nat} {t : Bt} {r1 : Rz (List Nat × Bt)} (hK : ∀ k, K k → k < w.heap.size) (hlb : w.heap.size ≤ lb) (hrb : rb < w.heap.size) (hsb : sb < w.heap.size) (h : LnI sb rb K v b w sm N lb r1 q1 ol q2 l W) (hr : r0 = bindR (takeR n) (fun v => lensR sm N k' (l ++ List.replicate (base + v) x)) (bt b q1)) (hk : N ≤ l.length + k' + 1) (hx : x ≤ 15) (hb : 1 ≤ base) (hb2 : base ≤ 20) (hn : n ≤ 7) (hl : l.length ≤ 500) (z : Int) (hz : z = n) (hq : takeR n (bt b q1) = .ok (vv, t)) :
    Calls Tryz.prog 182 #[.pointer (some ⟨sb, 0, none⟩), .int .i64 z] W fun e V => e = .returned (.int .i64 vv) ∧ Hid (Fr (fun k => k = rb) W V) ∧ Hid (Calls Tryz.prog 215 #[.int .i64 x, .int .i64 (base + vv : Nat), .pointer (some ⟨lb, 0, none⟩)] V fun e U => (∃ r, e = .returned r) ∧ Hid (∃ p2 ol', LnI sb rb K v b w sm N lb r0 p2 ol' k' (l ++ List.replicate (base + vv) x) U)) := by
  refine (jnumber_any h.lt n (by omega) z hz).mono (fun e V hh => ?_)
  obtain ⟨p2, h1, h2, h3, h4⟩ := hh.isOk hq
  have hvv : vv < 2 ^ 7 := Nat.lt_of_lt_of_le (takeR_lt hq) (Nat.pow_le_pow_right (by decide) hn)
  have hI := h.read hlb hrb h3 h4
  have hvv2 : vv < 128 := hvv
  refine ⟨h2, h4, ?_⟩
  refine (hI.rep hK hlb hrb hsb (r0 := r0) (k' := k') (p2 := p2) (by rw [hr, bindR_eq hq, h1]) hk h3 hx (by omega) (by omega) (by omega)).mono ?_
  rintro e U ⟨a1, ol', a2⟩
  exact ⟨a1, p2, ol', a2⟩
theorem takeR_le7 {n x : Nat} {t t' : Bt} (h : takeR n t = .ok (x, t')) (hn : n ≤ 7) : x ≤ 127 := by
  have : x < 2 ^ 7 := Nat.lt_of_lt_of_le (takeR_lt h) (Nat.pow_le_pow_right (by decide) hn)
  have : x < 128 := this
  omega
set_option maxHeartbeats 32000000 in
set_option maxRecDepth 100000 in
theorem lengths_any {C : Nat → Prop} {u : Option Addr} (h : Lt sb rb (fun k => ¬ K k) v b p w) (hK : ∀ k, K k → k < w.heap.size) (hc : CodV C (.pointer u) sm w) (hC : ¬ C rb) (hs : sm.length ≤ 19) (hN1 : 1 ≤ N) (hN2 : N ≤ 320) :
    Calls Tryz.prog 203 #[.pointer (some ⟨sb, 0, none⟩), .pointer u, .int .i64 N] w (Lnd sb rb K v b w (lensR sm N N [] (bt b p))) := by
  obtain ⟨P, hP⟩ : ∃ P : Ending → World → Prop, P = Lnd sb rb K v b w (lensR sm N N [] (bt b p)) := ⟨_, rfl⟩
  rw [← hP]
  obtain ⟨r0, hr0⟩ : ∃ r0, r0 = lensR sm N N [] (bt b p) := ⟨_, rfl⟩
  have hrb : rb < w.heap.size := h.rr.lt
  have hsb : sb < w.heap.size := World.block_lt_of_cell? _ _ h.c0
  have HX : Hid ((∀ k, K k → k < w.heap.size) ∧ rb < w.heap.size ∧ sb < w.heap.size) := ⟨hK, hrb, hsb⟩
  have hN0 : Nw w (w.alloc (.cells #[.slice none 0 0] 124)) := (Fr.refl _ _).alloc _
  have HI0 : Hid (LnI sb rb K v b w sm N w.heap.size r0 p none N [] (w.alloc (.cells #[.slice none 0 0] 124))) :=
    ⟨hr0, by simp, h.nw hN0, ⟨⟨_, new_heap _ _, rfl, rfl⟩, by simp⟩, fun g hg => (by cases hg), hN0.any, fun i => by simp⟩
  have BAD : Hid (∀ y W, r0 = .bad y → Fr (fun k => k = rb) w W → P (gv y) W) := fun y W h1 h2 => by
    rw [hP]; exact .inl ⟨y, by rw [← hr0]; exact h1, rfl, h2⟩
  have HWD : Hid (∀ p' W, Lt sb rb (fun k => ¬ K k) v b p' W → Fr (fun k => k = rb) w W → Calls Tryz.prog 190 #[.pointer (some ⟨sb, 0, none⟩), .pointer u] W (Ri sb rb (fun k => ¬ K k) v b W (symR sm (bt b p')))) := fun p' W h1 h2 => jword_any h1 (hc.kept h2 (fun k hk e => hC (by rw [← e]; exact hk))) hC
  have DONE : Hid (∀ p' ol k l W, LnI sb rb K v b w sm N w.heap.size r0 p' ol k l W → l.length = N → ∀ a c, W.cell? ⟨w.heap.size, 0, none⟩ = some (.slice a N c) → P (.returned (.slice a N c)) W) := fun p' ol k l W hI hl a c hcell => by
    rw [hP]
    have hr := hI.r
    rw [lensR_ge (by omega), if_neg (by omega)] at hr
    obtain ⟨vl, h1, h2⟩ := hI.ln.row
    have e1 := (row_cell h1 0 _ rfl).1
    rw [hcell] at e1
    injection e1 with e1
    subst e1
    cases hol : ol with
    | none =>
      rw [hol] at h2
      have := h2.2
      have e := toI_length l
      rw [this] at e
      simp at e
      omega
    | some g =>
      have h5 : OwR RI g (.slice a N c) (toI l) W := by rw [hol] at h2; exact h2
      obtain ⟨c', e, _, _⟩ := h5.form
      injection e with e1 _ _
      subst e1
      refine .inr ⟨l, p', g, c, ?_, by rw [hl], by rw [hl]; exact h5, hI.og g hol, hI.each, hI.lt, hI.fr⟩
      rw [← hr0, hr]; rfl
  have HG : Hid (∀ V, Calls Tryz.prog 186 #[.int .i64 62] V fun e w' => e = gv 62 ∧ V = w') := fun V => (giveUp_any 62 V).mono (fun e w' ⟨a1, a2⟩ => ⟨a1, a2.symm⟩)
  have hmf : ∀ (fn : Fn) (first cap : Array Value) (w : World), (Instr.makeFunc fn first cap).run Tryz.prog w = .ok (.func fn first cap) w := fun _ _ _ _ => rfl
  clear hP h hK hc hC hr0 hN0
  obtain ⟨lb, hlb⟩ : ∃ lb, lb = w.heap.size := ⟨_, rfl⟩
  have HLB : Hid (lb = w.heap.size) := hlb
  rw [← hlb] at HI0 DONE
  obtain ⟨W1, hW1⟩ : ∃ W1, w.alloc (.cells #[.slice none 0 0] 124) = W1 := ⟨_, rfl⟩
  rw [hW1] at HI0
  clear hlb hrb hsb
  go_enter Tryz.func203, Tryz.ntmps203
  go_wp2_with fail
  rw [← HLB.out]
  go_loopg [9] N (fun kx i wr => ∃ p' ol k l, N - l.length ≤ kx ∧ l.length ≤ N + 150 ∧ Hid (LnI sb rb K v b w sm N lb r0 p' ol k l wr))
  case atStart => exact ⟨p, none, N, [], by simp, by simp, HI0⟩
  case round =>
    obtain ⟨p', ol, k, l, hkx, hl2, HI⟩ := hrel
    clear HI0 hW1
    obtain ⟨a, c, c0, c1, hca, hcb, hcV, hlast⟩ := HI.out.cell
    have HLA : Hid (l.length ≠ 0 → ∃ g, a = some ⟨g, 0, none⟩ ∧ w.heap.size ≤ g ∧ ∀ V, Nw wr V → V.cell? ⟨g, l.length - 1, none⟩ = some (.int .i64 (lastL l : Nat))) := hlast
    have HCV : Hid (∀ V, Nw wr V → V.cell? ⟨lb, 0, none⟩ = some (.slice a l.length c)) := hcV
    clear hlast hcV
    by_cases hlt : l.length < N
    · have hz : (l.length : Int) < (N : Int) := by omega
      have HW : Hid (Calls Tryz.prog 190 #[.pointer (some ⟨sb, 0, none⟩), .pointer u] wr (Ri sb rb (fun k => ¬ K k) v b wr (symR sm (bt b p')))) := HWD.out p' wr HI.out.lt HI.out.fr
      obtain ⟨k', hk', hLR⟩ := lensR_lt (sm := sm) (t := bt b p') hlt HI.out.k1
      have HLR : Hid (r0 = bindR (symR sm) (fun y =>
        if y = 16 then (if l.length = 0 then failR 62 else bindR (takeR 2) fun v => lensR sm N k' (l ++ List.replicate (3 + v) (lastL l)))
        else if y = 17 then bindR (takeR 3) fun v => lensR sm N k' (l ++ List.replicate (3 + v) 0)
        else if y = 18 then bindR (takeR 7) fun v => lensR sm N k' (l ++ List.replicate (11 + v) 0)
        else lensR sm N k' (l ++ [y])) (bt b p')) := by
        show _ = _
        rw [HI.out.r, hLR]
      have hkN : Hid (N ≤ l.length + k' + 1) := by
        have := HI.out.k1
        show _ ≤ _
        omega
      have hlastl : lastL l ≤ 15 := HI.out.each _
      clear hLR hk' HWD DONE
      go_wp2_with fail
      go_at_call 190
      with_reducible refine HW.out.mono ?_
      unfold Ri
      rintro e w1 (⟨y, h1, rfl, h3⟩ | ⟨y, p1, h1, rfl, h3, h4⟩)
      · exact ⟨rfl, BAD.out y w1 (by rw [HLR.out]; exact bindR_bad h1) (HI.out.fr.trans h3)⟩
      · have hy19 : y < 19 := by
          have := (symR_lt h1).1
          omega
        have hrr : r0 = (if y = 16 then (if l.length = 0 then failR 62 else bindR (takeR 2) fun v => lensR sm N k' (l ++ List.replicate (3 + v) (lastL l)))
          else if y = 17 then bindR (takeR 3) fun v => lensR sm N k' (l ++ List.replicate (3 + v) 0)
          else if y = 18 then bindR (takeR 7) fun v => lensR sm N k' (l ++ List.replicate (11 + v) 0)
          else lensR sm N k' (l ++ [y])) (bt b p1) := by rw [HLR.out]; exact bindR_eq h1
        obtain ⟨xK, xrb, xsb⟩ := HX.out
        have xlb : w.heap.size ≤ lb := by rw [HLB.out]; exact Nat.le_refl _
        have hI1 := HI.out.read xlb xrb h3 h4
        obtain ⟨a1, c1', d0, d1, hd1, hd2, hdV, hdl⟩ := hI1.cell
        clear HW HLR HI HLA HCV c0 c1 hca hcb h1 h4
        by_cases hy16 : y = 16
        · rw [if_pos hy16] at hrr
          have hyz : ((y : Int) == 16) = true := by simp; omega
          by_cases hl0 : l.length = 0
          · rw [if_pos hl0] at hrr
            have HF : Hid (P (gv 62) w1) := BAD.out 62 w1 hrr hI1.fr
            have hlz : ((l.length : Int) == 0) = true := by rw [hl0]; rfl
            clear hI1 hdV hdl hrr BAD HX hy16 hl0
            generalize l.length = L at *
            go_wp2_with (first | (go_at_call 186; (with_reducible refine (HG.out _).mono ?_); rintro e w4 ⟨rfl, rfl⟩))
            exact ⟨rfl, HF.out⟩
          · rw [if_neg hl0] at hrr
            have hlz : ((l.length : Int) == 0) = false := by
              simp only [beq_eq_false_iff_ne, ne_eq]; omega
            obtain ⟨g, rfl, hgw, hdg⟩ := hdl hl0
            have hd3 := hdg w1 (Fr.refl _ _)
            have hNN : Nw w1 w1 := Fr.refl _ _
            have hsub : (l.length : Int) - 1 = ((l.length - 1 : Nat) : Int) := by omega
            have hsl : ((l.length - 1 : Nat) : Int) < (l.length : Int) := by omega
            have hLp : l.length ≤ 470 := by omega
            have hwr : IntKind.i64.wrap ((l.length : Int) - 1) = ((l.length - 1 : Nat) : Int) := by rw [hsub]; exact w64 _ (by omega)
            have hq0 : (0 : Int) ≤ ((l.length - 1 : Nat) : Int) := by omega
            have hwr2 : IntKind.i64.wrap ((l.length - 1 : Nat) : Int) = ((l.length - 1 : Nat) : Int) := w64 _ (by omega)
            have HI2 : Hid (∀ V, Nw w1 V → LnI sb rb K v b w sm N lb (lensR sm N k l (bt b p1)) p1 ol k l V) := fun V hV => ⟨rfl, hI1.k1, hI1.lt.nw hV, hI1.ln.nw hV, hI1.og, hI1.fr.trans hV.any, hI1.each⟩
            cases hq : takeR 2 (bt b p1) with
            | bad q =>
              have HN : Hid (∀ V, Nw w1 V → Calls Tryz.prog 182 #[.pointer (some ⟨sb, 0, none⟩), .int .i64 2] V fun e V => e = gv q ∧ Hid (P (gv q) V)) := fun V hV => (HI2.out V hV).num_bad hrr hq (by omega) 2 rfl BAD.out
              have HDV : Hid (∀ V, Nw w1 V → V.cell? ⟨lb, 0, none⟩ = some (.slice (some ⟨g, 0, none⟩) l.length c1') ∧ V.cell? ⟨g, l.length - 1, none⟩ = some (.int .i64 (lastL l : Nat))) := fun V hV => ⟨hdV V hV, hdg V hV⟩
              clear HI2 hI1 hdV hdl hdg hrr BAD HX hy16 hq hl0
              generalize lastL l = xl at *
              generalize hL1 : l.length - 1 = L1 at *
              clear hL1
              generalize l.length = L at *
              go_wp2_with fail
              go_region_with (first
                | (go_at_call 182; with_reducible refine (HN.out _ ?_).mono ?_; (first | assumption | exact (Fr.refl _ _).drew | exact Fr.refl _ _ | exact (Fr.refl _ _).drewN _); rintro e w3 ⟨rfl, HF⟩; (try dsimp only); apply idle_of ⟨rfl, HF.out⟩; unfold Idle))
              all_goals trivial
            | ok rr =>
              obtain ⟨vv, t2⟩ := rr
              have hvv := takeR_le7 hq (by omega)
              have HN : Hid (∀ V, Nw w1 V → Calls Tryz.prog 182 #[.pointer (some ⟨sb, 0, none⟩), .int .i64 2] V fun e V2 => e = .returned (.int .i64 vv) ∧ V2.cell? ⟨lb, 0, none⟩ = some (.slice (some ⟨g, 0, none⟩) l.length c1') ∧ V2.cell? ⟨g, l.length - 1, none⟩ = some (.int .i64 (lastL l : Nat)) ∧ Hid (Calls Tryz.prog 215 #[.int .i64 (lastL l), .int .i64 (3 + vv : Nat), .pointer (some ⟨lb, 0, none⟩)] V2 fun e U => (∃ r, e = .returned r) ∧ Hid (∃ p' ol k l', N - l'.length ≤ N - (l.length + 1) ∧ l'.length ≤ N + 150 ∧ Hid (LnI sb rb K v b w sm N lb r0 p' ol k l' U)))) := fun V hV => by
                refine ((HI2.out V hV).num_ok xK xlb xrb xsb hrr hkN.out hlastl (by omega) (by omega) (by omega) (by omega) 2 rfl hq).mono ?_
                rintro e V2 ⟨e1, e2, e3⟩
                refine ⟨e1, e2.out.cellv (hdV V hV) (fun e => by simp only at e; omega), e2.out.cellv (hdg V hV) (fun e => by simp only at e; omega), ?_⟩
                refine e3.out.mono (fun e U ⟨f1, f2⟩ => ⟨f1, ?_⟩)
                obtain ⟨p2, ol', hh⟩ := f2.out
                exact ⟨p2, ol', k', _, by simp; omega, by simp; omega, hh⟩
              have hsum : (3 : Int) + (vv : Int) = ((3 + vv : Nat) : Int) := by omega
              have hwr3 : IntKind.i64.wrap ((3 : Int) + (vv : Int)) = ((3 + vv : Nat) : Int) := by rw [hsum]; exact w64 _ (by omega)
              have hgk : N - (l.length + 1) < gk := by omega
              obtain ⟨kn, hkn⟩ : ∃ kn, kn = N - (l.length + 1) := ⟨_, rfl⟩
              rw [← hkn] at HN hgk
              clear HI2 hI1 hdV hdl hdg hrr BAD HX hy16 hq hl0 hkx hl2 hkN hkn hlt
              generalize hn3 : 3 + vv = n3 at *
              have hn3b : n3 ≤ 130 := by omega
              have hwr4 : IntKind.i64.wrap (n3 : Int) = (n3 : Int) := w64 _ (by omega)
              clear hn3
              generalize lastL l = xl at *
              generalize hL1 : l.length - 1 = L1 at *
              clear hL1
              generalize l.length = L at *
              go_wp2_with fail
              go_region_with (first
                | (go_at_call 182; with_reducible refine (HN.out _ ?_).mono ?_; (first | assumption | exact (Fr.refl _ _).drew | exact Fr.refl _ _ | exact (Fr.refl _ _).drewN _); rintro e w3 ⟨rfl, x0, x1, HC⟩)
                | (go_at_call 215; with_reducible refine HC.out.mono ?_; rintro e w4 ⟨⟨r, rfl⟩, HE⟩))
              all_goals go_wp2_with fail
              all_goals go_roundg kn
              all_goals (first | omega | exact HE.out)
        · rw [if_neg hy16] at hrr
          have hyz : ((y : Int) == 16) = false := by
            simp only [beq_eq_false_iff_ne, ne_eq]; omega
          by_cases hy17 : y = 17
          · rw [if_pos hy17] at hrr
            have hyz2 : ((y : Int) == 17) = true := by rw [hy17]; rfl
            clear hy16 hy17
            cases hq : takeR 3 (bt b p1) with
            | bad q =>
              have HN : Hid (Calls Tryz.prog 182 #[.pointer (some ⟨sb, 0, none⟩), .int .i64 3] w1 fun e V => e = gv q ∧ Hid (P (gv q) V)) := hI1.num_bad hrr hq (by omega) 3 rfl BAD.out
              clear hI1 hdV hdl hrr BAD HX hq
              generalize l.length = L at *
              go_wp2_with (first | (go_at_call 182; (with_reducible refine HN.out.mono ?_); rintro e w3 ⟨rfl, HF⟩))
              exact ⟨rfl, HF.out⟩
            | ok rr =>
              obtain ⟨vv, t2⟩ := rr
              have hvv := takeR_le7 hq (by omega)
              have HN : Hid (Calls Tryz.prog 182 #[.pointer (some ⟨sb, 0, none⟩), .int .i64 3] w1 fun e V2 => e = .returned (.int .i64 vv) ∧ Hid (Calls Tryz.prog 215 #[.int .i64 0, .int .i64 (3 + vv : Nat), .pointer (some ⟨lb, 0, none⟩)] V2 fun e U => (∃ r, e = .returned r) ∧ Hid (∃ p' ol k l', N - l'.length ≤ N - (l.length + 1) ∧ l'.length ≤ N + 150 ∧ Hid (LnI sb rb K v b w sm N lb r0 p' ol k l' U)))) := by
                refine (hI1.num_ok xK xlb xrb xsb hrr hkN.out (Nat.zero_le _) (by omega) (by omega) (by omega) (by omega) 3 rfl hq).mono ?_
                rintro e V2 ⟨e1, e2, e3⟩
                refine ⟨e1, e3.out.mono (fun e U ⟨f1, f2⟩ => ⟨f1, ?_⟩)⟩
                obtain ⟨p2, ol', hh⟩ := f2.out
                exact ⟨p2, ol', k', _, by simp; omega, by simp; omega, hh⟩
              have hsum : (3 : Int) + (vv : Int) = ((3 + vv : Nat) : Int) := by omega
              have hgk : N - (l.length + 1) < gk := by omega
              obtain ⟨kn, hkn⟩ : ∃ kn, kn = N - (l.length + 1) := ⟨_, rfl⟩
              rw [← hkn] at HN hgk
              have hn3b : 3 + vv ≤ 140 := by omega
              clear hI1 hdV hdl hrr BAD HX hq hkx hl2 hkN hkn hlt
              generalize 3 + vv = n3 at *
              generalize l.length = L at *
              go_wp2_with (first | (go_at_call 182; (with_reducible refine HN.out.mono ?_); rintro e w3 ⟨rfl, HC⟩) | (go_at_call 215; (with_reducible refine HC.out.mono ?_); rintro e w4 ⟨⟨r, rfl⟩, HE⟩))
              go_roundg kn
              all_goals (first | omega | exact HE.out)
          · rw [if_neg hy17] at hrr
            have hyz2 : ((y : Int) == 17) = false := by
              simp only [beq_eq_false_iff_ne, ne_eq]; omega
            by_cases hy18 : y = 18
            · rw [if_pos hy18] at hrr
              have hyz3 : ((y : Int) == 18) = true := by rw [hy18]; rfl
              clear hy16 hy17 hy18
              cases hq : takeR 7 (bt b p1) with
              | bad q =>
                have HN : Hid (Calls Tryz.prog 182 #[.pointer (some ⟨sb, 0, none⟩), .int .i64 7] w1 fun e V => e = gv q ∧ Hid (P (gv q) V)) := hI1.num_bad hrr hq (by omega) 7 rfl BAD.out
                clear hI1 hdV hdl hrr BAD HX hq
                generalize l.length = L at *
                go_wp2_with (first | (go_at_call 182; (with_reducible refine HN.out.mono ?_); rintro e w3 ⟨rfl, HF⟩))
                exact ⟨rfl, HF.out⟩
              | ok rr =>
                obtain ⟨vv, t2⟩ := rr
                have hvv := takeR_le7 hq (by omega)
                have HN : Hid (Calls Tryz.prog 182 #[.pointer (some ⟨sb, 0, none⟩), .int .i64 7] w1 fun e V2 => e = .returned (.int .i64 vv) ∧ Hid (Calls Tryz.prog 215 #[.int .i64 0, .int .i64 (11 + vv : Nat), .pointer (some ⟨lb, 0, none⟩)] V2 fun e U => (∃ r, e = .returned r) ∧ Hid (∃ p' ol k l', N - l'.length ≤ N - (l.length + 1) ∧ l'.length ≤ N + 150 ∧ Hid (LnI sb rb K v b w sm N lb r0 p' ol k l' U)))) := by
                  refine (hI1.num_ok xK xlb xrb xsb hrr hkN.out (Nat.zero_le _) (by omega) (by omega) (by omega) (by omega) 7 rfl hq).mono ?_
                  rintro e V2 ⟨e1, e2, e3⟩
                  refine ⟨e1, e3.out.mono (fun e U ⟨f1, f2⟩ => ⟨f1, ?_⟩)⟩
                  obtain ⟨p2, ol', hh⟩ := f2.out
                  exact ⟨p2, ol', k', _, by simp; omega, by simp; omega, hh⟩
                have hsum : (11 : Int) + (vv : Int) = ((11 + vv : Nat) : Int) := by omega
                have hgk : N - (l.length + 1) < gk := by omega
                obtain ⟨kn, hkn⟩ : ∃ kn, kn = N - (l.length + 1) := ⟨_, rfl⟩
                rw [← hkn] at HN hgk
                have hn3b : 11 + vv ≤ 140 := by omega
                clear hI1 hdV hdl hrr BAD HX hq hkx hl2 hkN hkn hlt
                generalize 11 + vv = n3 at *
                generalize l.length = L at *
                go_wp2_with (first | (go_at_call 182; (with_reducible refine HN.out.mono ?_); rintro e w3 ⟨rfl, HC⟩) | (go_at_call 215; (with_reducible refine HC.out.mono ?_); rintro e w4 ⟨⟨r, rfl⟩, HE⟩))
                go_roundg kn
                all_goals (first | omega | exact HE.out)
            · rw [if_neg hy18] at hrr
              have hyz3 : ((y : Int) == 18) = false := by
                simp only [beq_eq_false_iff_ne, ne_eq]; omega
              have hN2' : Nw w1 (w1.alloc (.cells #[.int .i64 y] 3)) := (Fr.refl _ _).alloc _
              have hb1 := OwR.built riOk w1 [(y : Int)] #[.int .i64 y] rfl (by simp)
              obtain ⟨aa, cc, a', c', W, ol', e1, e2, HAP, e4, e5, e6⟩ := (hI1.ln.nw hN2').app (by omega) (.slice (some ⟨w1.heap.size, 0, none⟩) 1 1) [y] ((hb1.slr riOk).mono (fun _ h => h.elim)) (by simp)
              have HN : Hid (∃ p' ol k l', N - l'.length ≤ N - (l.length + 1) ∧ l'.length ≤ N + 150 ∧ Hid (LnI sb rb K v b w sm N lb r0 p' ol k l' (W.setCell ⟨lb, 0, none⟩ (.slice a' (l.length + 1) c')))) := by
                obtain ⟨q1, q2, q3⟩ := e6.out
                have hI2 : LnI sb rb K v b w sm N lb (lensR sm N k l (bt b p1)) p1 ol k l (w1.alloc (.cells #[.int .i64 y] 3)) := ⟨rfl, hI1.k1, hI1.lt.nw hN2', hI1.ln.nw hN2', hI1.og, hI1.fr.trans hN2'.any, hI1.each⟩
                refine ⟨p1, ol', k', l ++ [y], by simp, by simp; omega, hI2.next xK xlb xrb xsb hrr (by have := hkN.out; simp; omega) hI2.lt (fun x hx => by simp at hx; omega) q1 q2 q3⟩
              have hHAP : Hid (∀ ty, (Builtin.append_ #[124, 124] ty #[.slice aa l.length cc, .slice (some ⟨w1.heap.size, 0, none⟩) 1 1]).run Tryz.prog (w1.alloc (.cells #[.int .i64 y] 3)) = .ok (.slice a' (l.length + 1) c') W) := HAP
              have d00 : w1.cell? ⟨lb, 0, none⟩ = some (.slice aa l.length cc) := by
                have := hdV _ hN2'
                rw [e1] at this
                rw [d0, this]
              have hgk : N - (l.length + 1) < gk := by omega
              obtain ⟨kn, hkn⟩ : ∃ kn, kn = N - (l.length + 1) := ⟨_, rfl⟩
              rw [← hkn] at HN hgk
              clear hI1 hdV hdl hrr BAD HX hkx hl2 hkN hkn hlt HAP e6 e1 e2 d0 hN2' hb1 hy16 hy17 hy18
              generalize l.length + 1 = L2 at *
              generalize l.length = L at *
              go_wp2_with (first
                | (at_builtin; refine Lib.wpList_append_run _ rfl _ _ 124 124 rfl (.slice aa L cc) (.slice (some ⟨w1.heap.size, 0, none⟩) 1 1) (by simp [Act.eval]) (by simp [Act.eval]) _ _ (hHAP.out _) ?_))
              go_roundg kn
              all_goals (first | omega | exact HN.out)
    · have hz : ¬ (l.length : Int) < (N : Int) := by omega
      by_cases hgt : N < l.length
      · have HF : Hid (P (gv 62) wr) := BAD.out 62 wr (by rw [HI.out.r, lensR_ge (by omega), if_pos hgt]; rfl) HI.out.fr
        have hz2 : (N : Int) < (l.length : Int) := by omega
        clear HI HLA HCV HWD DONE BAD HX hkx hlt hgt
        generalize l.length = L at *
        go_wp2_with (first | (go_at_call 186; (with_reducible refine (HG.out _).mono ?_); rintro e w4 ⟨rfl, rfl⟩))
        exact ⟨rfl, HF.out⟩
      · have hle : l.length = N := by omega
        have HF : Hid (P (.returned (.slice a N c)) wr) := DONE.out p' ol k l wr HI.out hle a c (by rw [← hle]; exact c0)
        have hz2 : ¬ (N : Int) < (N : Int) := by omega
        rw [hle] at c0
        clear HI HLA HCV HWD DONE BAD HX hkx hlt hgt hz
        go_wp2_with fail
        exact HF.out
end Go.Proofs.YtpjnbhflnbhnoaaGreatDoor

namespace Go.Proofs.YtpjnbhflnbhnoaaGreatDoor
open Go.RowKit
set_option linter.unusedVariables false
variable {sb rb : Nat} {K : Nat → Prop} {v : Value} {b : List By} {p : Nat} {w : World}
/-- The table of the order lies where it must. -/
def Tab (w : World) : Prop := ∀ i, i < 19 → w.cell? ⟨5, i, none⟩ = some (.int .i64 (ordL.getD i 0 : Nat))
theorem Tab.kept {w w' : World} {Y : Nat → Prop} (h : Tab w) (f : Fr Y w w') (h0 : ¬ Y 5) : Tab w' := fun i hi => f.cellv (h i hi) h0
theorem ordL_lt (i : Nat) : ordL.getD i 0 < 19 := by
  have h : ∀ x ∈ ordL, x < 19 := by decide
  rw [List.getD_eq_getElem?_getD]
  cases hq : ordL[i]? with
  | none => simp
  | some x => exact h x (List.mem_of_getElem? hq)
def Lcd (sb rb : Nat) (K : Nat → Prop) (v : Value) (b : List By) (w : World) (n : Nat) (r : Rz (List Nat × Bt)) (e : Ending) (w' : World) : Prop :=
  (∃ y, e = gv y ∧ (r = .bad y ∨ ∃ sm t, r = .ok (sm, t) ∧ ¬ (Cod sm ∧ room sm = 32768) ∧ y = 62) ∧ Fr (fun k => k = rb) w w') ∨ (∃ sm p' cb gw gs ws ss, r = .ok (sm, bt b p') ∧ e = .returned (.pointer (some ⟨cb, 0, none⟩)) ∧ CodeI cb gw gs sm ws ss w' ∧ Cod sm ∧ room sm = 32768 ∧ sm.length = 19 ∧ w.heap.size ≤ cb ∧ w.heap.size ≤ gw ∧ w.heap.size ≤ gs ∧ Lt sb rb (fun k => ¬ K k) v b p' w' ∧ Fr (fun k => k = rb) w w')
/-- How the loop stands: i of the lengths are read. -/
structure SlI (sb rb : Nat) (K : Nat → Prop) (v : Value) (b : List By) (w : World) (n g : Nat) (r0 : Rz (List Nat × Bt)) (i : Nat) (p' : Nat) (l : List Nat) (W : World) : Prop where
  r : r0 = smallR i (n - i) l (bt b p')
  row : SwR RI g (toI l) W
  ll : l.length = 19
  lt : Lt sb rb (fun k => ¬ K k) v b p' W
  gw : w.heap.size ≤ g
  fr : Fr (fun k => k = rb) w W
theorem toI_set (l : List Nat) (i x : Nat) : toI (l.set i x) = (toI l).set i (x : Int) := by unfold toI; rw [List.map_set]
set_option maxHeartbeats 16000000 in
set_option maxRecDepth 100000 in
theorem lengthsCode_any (h : Lt sb rb (fun k => ¬ K k) v b p w) (hK : ∀ k, K k → k < w.heap.size) (hT : Tab w) (hr0 : rb ≠ 5) (n : Nat) (hn : n ≤ 19) :
    Calls Tryz.prog 204 #[.pointer (some ⟨sb, 0, none⟩), .int .i64 n] w (Lcd sb rb K v b w n (smallR 0 n (List.replicate 19 0) (bt b p))) := by
  obtain ⟨P, hP⟩ : ∃ P : Ending → World → Prop, P = Lcd sb rb K v b w n (smallR 0 n (List.replicate 19 0) (bt b p)) := ⟨_, rfl⟩
  rw [← hP]
  obtain ⟨r0, hrr⟩ : ∃ r0, r0 = smallR 0 n (List.replicate 19 0) (bt b p) := ⟨_, rfl⟩
  rw [← hrr] at hP
  have hrb : rb < w.heap.size := h.rr.lt
  have hsb : sb < w.heap.size := World.block_lt_of_cell? _ _ h.c0
  obtain ⟨W1, hW1⟩ : ∃ W1, W1 = w.alloc (.cells (flatR RI (List.replicate 19 0)).toArray 3) := ⟨_, rfl⟩
  have hN1 : Nw w W1 := by rw [hW1]; exact (Fr.refl _ _).alloc _
  have hmk : (Instr.makeSlice 124 (.int .i64 19) (.int .i64 19)).run Tryz.prog w = .ok (.slice (some ⟨w.heap.size, 0, none⟩) 19 19) W1 := by rw [hW1]; exact make_ints 19 (by decide) w
  have HI0 : Hid (SlI sb rb K v b w n w.heap.size r0 0 p (List.replicate 19 0) W1) := ⟨by rw [hrr]; rfl, by
    unfold SwR
    rw [hW1, new_heap, toI_rep]
    rfl, by simp, h.nw hN1, Nat.le_refl _, hN1.any⟩
  have BAD : Hid (∀ y W, r0 = .bad y → Fr (fun k => k = rb) w W → P (gv y) W) := fun y W h1 h2 => by
    rw [hP]; exact .inl ⟨y, rfl, .inl h1, h2⟩
  -- a round
  have STP : Hid (∀ i p' l W, SlI sb rb K v b w n w.heap.size r0 i p' l W → i < n → ∀ V, Nw W V → (∀ y, takeR 3 (bt b p') = .bad y → Calls Tryz.prog 182 #[.pointer (some ⟨sb, 0, none⟩), .int .i64 3] V fun e V2 => e = gv y ∧ Hid (P (gv y) V2)) ∧ (∀ x t, takeR 3 (bt b p') = .ok (x, t) → Calls Tryz.prog 182 #[.pointer (some ⟨sb, 0, none⟩), .int .i64 3] V fun e V2 => e = .returned (.int .i64 x) ∧ V2.cell? ⟨5, i, none⟩ = some (.int .i64 (ordL.getD i 0 : Nat)) ∧ (∃ u, V2.cell? ⟨w.heap.size, ordL.getD i 0, none⟩ = some u) ∧ V2.frozen? ⟨w.heap.size, ordL.getD i 0, none⟩ = false ∧ Hid (∃ p2 l', SlI sb rb K v b w n w.heap.size r0 (i + 1) p2 l' (V2.setCell ⟨w.heap.size, ordL.getD i 0, none⟩ (.int .i64 x))))) := by
    intro i p' l W hI hi V hV
    have hru : r0 = bindR (takeR 3) (fun x => smallR (i + 1) (n - (i + 1)) (l.set (ordL.getD i 0) x)) (bt b p') := by
      have := hI.r
      rw [show n - i = (n - (i + 1)) + 1 by omega, smallR] at this
      exact this
    have hnum := jnumber_any (hI.lt.nw hV) 3 (by decide) 3 rfl
    constructor
    · intro y hy
      refine hnum.mono (fun e V2 hh => ?_)
      obtain ⟨a1, a2⟩ := hh.isBad hy
      exact ⟨a1, BAD.out y V2 (by rw [hru]; exact bindR_bad hy) ((hI.fr.trans hV.any).trans a2)⟩
    · intro x t hx
      refine hnum.mono (fun e V2 hh => ?_)
      obtain ⟨p2, a1, a2, a3, a4⟩ := hh.isOk hx
      have hf : Fr (fun k => k = rb) w V2 := (hI.fr.trans hV.any).trans a4
      have hrow : SwR RI w.heap.size (toI l) V2 := (hI.row.kept hV (fun h => h)).kept a4 (fun e => by omega)
      have hol := ordL_lt i
      obtain ⟨q1, q2⟩ := hrow.cell riOk (ordL.getD i 0) 0 _ _ (toI_at l (ordL.getD i 0) (by rw [hI.ll]; exact hol)) rfl
      rw [show RI.k = 1 from rfl, Nat.mul_one, Nat.add_zero] at q1 q2
      have fs : Fr (fun k => k = w.heap.size) V2 (V2.setCell ⟨w.heap.size, ordL.getD i 0, none⟩ (.int .i64 x)) := (Fr.refl _ _).setCell _ _ (.inl rfl)
      refine ⟨a2, (hT.kept hf (fun e => hr0 e.symm)) i (by omega), ⟨_, q1⟩, q2, p2, l.set (ordL.getD i 0) x, ?_, ?_, by rw [List.length_set]; exact hI.ll, ⟨fs.cellv a3.c0 (fun e => by simp only at e; omega), a3.ne, a3.rr.kept fs (fun e => by omega) (fun g hg hk => by have := hK g hk; omega), a3.pl⟩, Nat.le_refl _, hf.then fs (fun i hi => .inr (by omega))⟩
      · rw [hru, bindR_eq hx, a1]
      · rw [toI_set]
        exact hrow.set1 (ordL.getD i 0) x
  -- the end
  have DONE : Hid (∀ p' l W, SlI sb rb K v b w n w.heap.size r0 n p' l W → (¬ Cod l → Calls Tryz.prog 118 #[.slice (some ⟨w.heap.size, 0, none⟩) 19 19] W fun e V => e = .returned (.tuple #[.pointer none, .int .i64 51]) ∧ Hid (P (gv 62) V)) ∧ (Cod l → Calls Tryz.prog 118 #[.slice (some ⟨w.heap.size, 0, none⟩) 19 19] W fun e V => ∃ cb, e = .returned (.tuple #[.pointer (some ⟨cb, 0, none⟩), .int .i64 0]) ∧ Hid (Calls Tryz.prog 216 #[.pointer (some ⟨cb, 0, none⟩)] V fun e U => e = .returned (.bool (decide (room l = 32768))) ∧ Hid ((room l = 32768 → P (.returned (.pointer (some ⟨cb, 0, none⟩))) U) ∧ (room l ≠ 32768 → P (gv 62) U))))) := by
    intro p' l W hI
    have hO : OwR RI w.heap.size (.slice (some ⟨w.heap.size, 0, none⟩) 19 19) (toI l) W := ⟨toI l, by rw [toI_length, hI.ll], List.take_length, Nat.le_refl _, by rw [toI_length, hI.ll]; decide, hI.row⟩
    have hru := hI.r
    rw [Nat.sub_self] at hru
    have hru : r0 = .ok (l, bt b p') := hru
    constructor
    · intro hk
      refine (newCode_no W _ (toI l) hO.low (by rw [toI_length, hI.ll]; decide) (fun hi => hk ((isCode_iff l).1 hi))).mono (fun e V ⟨a1, a2⟩ => ⟨a1, ?_⟩)
      show P _ _
      rw [hP]
      exact .inl ⟨62, rfl, .inr ⟨l, _, hru, fun hh => hk hh.1, rfl⟩, hI.fr.trans a2.any⟩
    · intro hk
      refine (newCode_yes W _ l hO.low hk).mono (fun e V hh => ?_)
      obtain ⟨cb, gw, gs, ws, ss, a1, a2, a3, a4, a5, a6⟩ := hh
      refine ⟨cb, a1, (whole_any a2 hk).mono (fun e U hh2 => ⟨hh2.1, ?_, ?_⟩)⟩
      · intro hr
        rw [hP]
        have hsz := hI.fr.size
        exact .inr ⟨l, p', cb, gw, gs, ws, ss, hru, rfl, a2.nw hh2.2, hk, hr, hI.ll, by omega, by omega, by omega, (hI.lt.nw a3).nw hh2.2, (hI.fr.trans a3.any).trans hh2.2.any⟩
      · intro hr
        rw [hP]
        exact .inl ⟨62, rfl, .inr ⟨l, _, hru, fun hh => hr hh.2, rfl⟩, (hI.fr.trans a3.any).trans hh2.2.any⟩
  have HG : Hid (∀ V, Calls Tryz.prog 186 #[.int .i64 62] V fun e w' => e = gv 62 ∧ V = w') := fun V => (giveUp_any 62 V).mono (fun e w' ⟨a1, a2⟩ => ⟨a1, a2.symm⟩)
  have HTB : Hid (∀ i W, Fr (fun k => k = rb) w W → i < 19 → W.cell? ⟨5, i, none⟩ = some (.int .i64 (ordL.getD i 0 : Nat))) := fun i W hW hi => (hT.kept hW (fun e => hr0 e.symm)) i hi
  clear hP h hK hT hW1 hN1
  obtain ⟨g, hg⟩ : ∃ g, g = w.heap.size := ⟨_, rfl⟩
  have HGG : Hid (g = w.heap.size) := hg
  rw [← hg] at HI0 STP DONE hmk
  clear hg hrb hsb
  go_enter Tryz.func204, Tryz.ntmps204
  go_wp2_with fail
  go_loopg [11] n (fun kx i wr => ∃ I p' l, I ≤ n ∧ n - I ≤ kx ∧ i = .int .i64 (I : Nat) ∧ Hid (SlI sb rb K v b w n g r0 I p' l wr))
  case atStart => exact ⟨0, p, _, by omega, by omega, rfl, HI0⟩
  case round =>
    obtain ⟨I, p', l, hI, hkx, rfl, HI⟩ := hrel
    clear HI0 hmk
    by_cases hlt : I < n
    · have hz : (I : Int) < (n : Int) := by omega
      have hol := ordL_lt I
      have hoz : ((ordL.getD I 0 : Nat) : Int) < 19 := by omega
      have hI19 : (I : Int) < 19 := by omega
      have hI0 : (0 : Int) ≤ (I : Int) := by omega
      have ho0 : (0 : Int) ≤ ((ordL.getD I 0 : Nat) : Int) := by omega
      have t0 := HTB.out I wr HI.out.fr (by omega)
      have hNN : Nw wr wr := Fr.refl _ _
      cases hq : takeR 3 (bt b p') with
      | bad q =>
        have HN : Hid (∀ V, Nw wr V → Calls Tryz.prog 182 #[.pointer (some ⟨sb, 0, none⟩), .int .i64 3] V fun e V2 => e = gv q ∧ Hid (P (gv q) V2)) := fun V hV => (STP.out I p' l wr HI.out hlt V hV).1 q hq
        clear STP DONE HI HTB BAD hq
        generalize ordL.getD I 0 = oi at *
        go_wp2_with fail
        go_region_with (first
          | (go_at_call 182; with_reducible refine (HN.out _ ?_).mono ?_; (first | assumption | exact (Fr.refl _ _).drew | exact Fr.refl _ _ | exact (Fr.refl _ _).drewN _); rintro e w3 ⟨rfl, HF⟩; (try dsimp only); apply idle_of ⟨rfl, HF.out⟩; unfold Idle))
        all_goals trivial
      | ok rr =>
        obtain ⟨x, t⟩ := rr
        have HN : Hid (∀ V, Nw wr V → Calls Tryz.prog 182 #[.pointer (some ⟨sb, 0, none⟩), .int .i64 3] V fun e V2 => e = .returned (.int .i64 x) ∧ V2.cell? ⟨5, I, none⟩ = some (.int .i64 (ordL.getD I 0 : Nat)) ∧ (∃ u, V2.cell? ⟨g, ordL.getD I 0, none⟩ = some u) ∧ V2.frozen? ⟨g, ordL.getD I 0, none⟩ = false ∧ Hid (∃ p2 l', SlI sb rb K v b w n g r0 (I + 1) p2 l' (V2.setCell ⟨g, ordL.getD I 0, none⟩ (.int .i64 x)))) := fun V hV => (STP.out I p' l wr HI.out hlt V hV).2 x t hq
        clear STP DONE HI HTB BAD hq
        generalize ordL.getD I 0 = oi at *
        go_wp2_with fail
        go_region_with (first
          | (go_at_call 182; with_reducible refine (HN.out _ ?_).mono ?_; (first | assumption | exact (Fr.refl _ _).drew | exact Fr.refl _ _ | exact (Fr.refl _ _).drewN _); rintro e w3 ⟨rfl, x0, ⟨u, x1⟩, x2, HE⟩))
        all_goals go_wp2_with fail
        all_goals go_roundg (n - (I + 1))
        all_goals (first | omega | (obtain ⟨p2, l', hh⟩ := HE.out; exact ⟨I + 1, p2, l', by omega, by omega, by first | rfl | (congr 1), hh⟩))
    · obtain rfl : I = n := by omega
      have hz : ¬ (I : Int) < (I : Int) := by omega
      obtain ⟨dN, dY⟩ := DONE.out p' l wr HI.out
      by_cases hk : Cod l
      · have HNC := dY hk
        by_cases hr : room l = 32768
        · rw [decide_eq_true hr] at HNC
          have HN : Hid (Calls Tryz.prog 118 #[.slice (some ⟨g, 0, none⟩) 19 19] wr fun e V => ∃ cb, e = .returned (.tuple #[.pointer (some ⟨cb, 0, none⟩), .int .i64 0]) ∧ Hid (Calls Tryz.prog 216 #[.pointer (some ⟨cb, 0, none⟩)] V fun e U => e = .returned (.bool true) ∧ Hid (P (.returned (.pointer (some ⟨cb, 0, none⟩))) U))) := HNC.mono (fun e V ⟨cb, a1, a2⟩ => ⟨cb, a1, a2.out.mono (fun e U ⟨b1, b2⟩ => ⟨b1, b2.out.1 hr⟩)⟩)
          clear dN dY HNC STP DONE HI HTB BAD
          go_wp2_with (first | (go_at_call 118; (with_reducible refine HN.out.mono ?_); rintro e w1 ⟨cb, rfl, HW⟩) | (go_at_call 216; (with_reducible refine HW.out.mono ?_); rintro e w2 ⟨rfl, HF⟩))
          exact HF.out
        · rw [decide_eq_false hr] at HNC
          have HN : Hid (Calls Tryz.prog 118 #[.slice (some ⟨g, 0, none⟩) 19 19] wr fun e V => ∃ cb, e = .returned (.tuple #[.pointer (some ⟨cb, 0, none⟩), .int .i64 0]) ∧ Hid (Calls Tryz.prog 216 #[.pointer (some ⟨cb, 0, none⟩)] V fun e U => e = .returned (.bool false) ∧ Hid (P (gv 62) U))) := HNC.mono (fun e V ⟨cb, a1, a2⟩ => ⟨cb, a1, a2.out.mono (fun e U ⟨b1, b2⟩ => ⟨b1, b2.out.2 hr⟩)⟩)
          clear dN dY HNC STP DONE HI HTB BAD
          go_wp2_with (first | (go_at_call 118; (with_reducible refine HN.out.mono ?_); rintro e w1 ⟨cb, rfl, HW⟩) | (go_at_call 216; (with_reducible refine HW.out.mono ?_); rintro e w2 ⟨rfl, HF⟩) | (go_at_call 186; (with_reducible refine (HG.out _).mono ?_); rintro e w4 ⟨rfl, rfl⟩))
          exact ⟨rfl, HF.out⟩
      · have HN : Hid (Calls Tryz.prog 118 #[.slice (some ⟨g, 0, none⟩) 19 19] wr fun e V => e = .returned (.tuple #[.pointer none, .int .i64 51]) ∧ Hid (P (gv 62) V)) := dN hk
        clear dN dY STP DONE HI HTB BAD
        go_wp2_with (first | (go_at_call 118; (with_reducible refine HN.out.mono ?_); rintro e w1 ⟨rfl, HF⟩) | (go_at_call 186; (with_reducible refine (HG.out _).mono ?_); rintro e w4 ⟨rfl, rfl⟩))
        exact ⟨rfl, HF.out⟩
end Go.Proofs.YtpjnbhflnbhnoaaGreatDoor

namespace Go.Proofs.YtpjnbhflnbhnoaaGreatDoor
open Go.RowKit
set_option linter.unusedVariables false
variable {sb rb : Nat} {K : Nat → Prop} {rv : Value} {v : Value} {b : List By} {p : Nat} {skip left : Int} {most told : Nat} {m : Mm} {s : Sx} {w : World}
/-- A part of a row of lengths. -/
theorem OwR.part {g c : Nat} {l : List Nat} {w : World} (h : OwR RI g (.slice (some ⟨g, 0, none⟩) l.length c) (toI l) w) (o n : Nat) (ho : o + n ≤ l.length) (k : Nat) (hk : n ≤ k) (hk2 : k < 9223372036854775808) : SlR RI (fun k => w.heap.size ≤ k) (.slice (some ⟨g, o, none⟩) n k) (toI ((l.drop o).take n)) w := by
  have hlen : (toI ((l.drop o).take n)).length = n := by rw [toI_length, List.length_take, List.length_drop]; omega
  refine .inr ⟨g, o, k, by have := h.lt; omega, by rw [hlen], by rw [hlen]; exact hk, hk2, fun i x j u hx hu => ?_⟩
  have hi : i < n := by
    have := (List.getElem?_eq_some_iff.1 hx).1
    rw [hlen] at this; exact this
  have hx2 : (toI l)[o + i]? = some x := by
    unfold toI at hx ⊢
    rw [List.getElem?_map, List.getElem?_take, if_pos hi, List.getElem?_drop] at hx
    rw [List.getElem?_map]; exact hx
  have := (h.cell riOk (o + i) j x u hx2 hu).1
  rw [show RI.k = 1 from rfl, Nat.mul_one] at this ⊢
  exact this
open Classical in
theorem ownR_eq : ownR = bindR (takeR 5) fun a => bindR (takeR 5) fun d => bindR (takeR 4) fun n =>
  if 286 < a + 257 ∨ 30 < d + 1 then failR 62 else
  bindR (smallR 0 (n + 4) (List.replicate 19 0)) fun sm => if ¬ (Cod sm ∧ room sm = 32768) then failR 62 else
  bindR (lensR sm (a + 257 + (d + 1)) (a + 257 + (d + 1)) []) fun l =>
  if l.getD 256 0 ≠ 0 ∧ Good (l.take (a + 257)) ∧ (sumL (l.drop (a + 257)) = 0 ∨ Good (l.drop (a + 257))) then retR (l.take (a + 257), l.drop (a + 257)) else failR 62 := rfl
/-- What ownCodes answers. -/
def Owd (sb rb : Nat) (K : Nat → Prop) (v : Value) (b : List By) (skip left : Int) (most told : Nat) (m : Mm) (s : Sx) (w : World) (r : Rz ((List Nat × List Nat) × Bt)) (e : Ending) (w' : World) : Prop :=
  (∃ y, r = .bad y ∧ e = gv y ∧ SmI sb K (.pointer (some ⟨rb, 0, none⟩)) skip left most told m s w' ∧ Fr (fun k => ¬ K k) w w') ∨
  (∃ la lb p' m' K' x, r = .ok ((la, lb), bt b p') ∧ e = .returned x ∧ StI sb rb K' v b p' skip left most told m' { s with md := 2, la := la, lb := lb } w' ∧ (∀ k, K k → K' k) ∧ (∀ k, K' k → K k ∨ w.heap.size ≤ k) ∧ Fr (fun k => ¬ K k) w w')
theorem getD_sub (l : List Nat) (B o n : Nat) (h : ∀ i, l.getD i 0 ≤ B) (i : Nat) : ((l.drop o).take n).getD i 0 ≤ B := by
  rw [List.getD_eq_getElem?_getD, List.getElem?_take]
  by_cases hi : i < n
  · rw [if_pos hi, List.getElem?_drop, ← List.getD_eq_getElem?_getD]; exact h _
  · rw [if_neg hi]; simp
/-- Behind the lengths: the codes of both. -/
structure OwI (sb rb : Nat) (K : Nat → Prop) (v : Value) (b : List By) (p' : Nat) (skip left : Int) (most told : Nat) (m : Mm) (s : Sx) (w : World) (l : List Nat) (g c : Nat) (W : World) : Prop where
  st : StI sb rb K v b p' skip left most told m s W
  fr : Fr (fun k => ¬ K k) w W
  ow : OwR RI g (.slice (some ⟨g, 0, none⟩) l.length c) (toI l) W
  each : ∀ i, l.getD i 0 ≤ 15
  cl : l.length ≤ c
  c2 : c < 9223372036854775808
theorem OwI.nw {p' g c : Nat} {l : List Nat} {W V : World} (h : OwI sb rb K v b p' skip left most told m s w l g c W) (f : Nw W V) : OwI sb rb K v b p' skip left most told m s w l g c V := ⟨h.st.nw f, h.fr.trans f.any, h.ow.nw f, h.each, h.cl, h.c2⟩
theorem lensR_len {sm : List Nat} {N : Nat} : ∀ (k : Nat) (l0 l : List Nat) (t t' : Bt), lensR sm N k l0 t = .ok (l, t') → N ≤ l0.length + k → l.length = N := by
  have fin : ∀ (l0 l : List Nat) (t t' : Bt), (if N < l0.length then failR 62 else retR l0 : Rdr (List Nat)) t = .ok (l, t') → N ≤ l0.length → l.length = N := by
    intro l0 l t t' h hk
    split at h
    · cases h
    · injection h with h
      injection h with h
      rw [← h]; omega
  intro k
  induction k with
  | zero => intro l0 l t t' h hk; exact fin l0 l t t' h (by omega)
  | succ k ih =>
    intro l0 l t t' h hk
    rw [lensR] at h
    split at h
    · obtain ⟨y, t1, q1, q2⟩ := bindR_ok h
      split at q2
      · split at q2
        · cases q2
        · obtain ⟨y2, t2, q3, q4⟩ := bindR_ok q2
          exact ih _ _ _ _ q4 (by simp; omega)
      · split at q2
        · obtain ⟨y2, t2, q3, q4⟩ := bindR_ok q2
          exact ih _ _ _ _ q4 (by simp; omega)
        · split at q2
          · obtain ⟨y2, t2, q3, q4⟩ := bindR_ok q2
            exact ih _ _ _ _ q4 (by simp; omega)
          · exact ih _ _ _ _ q2 (by simp; omega)
    · rename_i hh
      exact fin l0 l t t' h (by omega)
end Go.Proofs.YtpjnbhflnbhnoaaGreatDoor
