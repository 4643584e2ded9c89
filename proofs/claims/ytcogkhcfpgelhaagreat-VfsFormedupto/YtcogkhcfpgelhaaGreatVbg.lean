import Derived.Test.YtcogkhcfpgelhaaGreatVba
import Derived.Test.YtcogkhcfpgelhaaGreatVbf
namespace Go.Proofs.YtcogkhcfpgelhaaGreat
open Go.RowKit
set_option linter.unusedVariables false
set_option maxRecDepth 100000
variable {w w' W V : World}
/-! ### The document's Copy -/
abbrev ciC (X : Im) (v : Value) : Array Value := #[.int .i64 X.nodes, .int .i64 X.bytes, .int .i64 X.next, v]
/-- How Copy's loop stands. -/
def CpI (w : World) (X : Im) (N : List Nd) (a : Option Addr) (c I : Nat) (wr : World) : Prop := Nw w wr ∧ wr.heap[w.heap.size]? = some (.cells (ciC X (.slice a I c)) 37) ∧ wr.heap[w.heap.size + 1]? = some (.cells imZ 37) ∧ ∃ l, ImI w (.slice a I c) l wr ∧ l.map Nq.x = N ∧ l.length = I
theorem cp_step {X : Im} {N : List Nd} {a : Option Addr} {c I : Nat} {wr : World} (H : CpI w X N a c I wr) (hI : I ≤ 1000000000) (y : Nq) (hy : NqR y wr) (hw : NdW y.x) {V3 : World} (hV3 : wr.alloc (.cells (nqC y) 58) = V3) :
    ∃ da dc A2 A3 ea ec B2 B3 a' c' C2 C3, (∀ ty, (appV #[34, 34] ty #[.slice (some ⟨V3.heap.size, 0, none⟩) 0 0, .slice y.d.a y.d.n y.d.c]).run Tryz.prog (V3.alloc (.cells #[] 5)) = .ok (.slice da y.d.n dc) A2) ∧ A2.setCell ⟨wr.heap.size, 7, none⟩ (.slice da y.d.n dc) = A3 ∧ (∃ u, A2.cell? ⟨wr.heap.size, 7, none⟩ = some u) ∧ A2.frozen? ⟨wr.heap.size, 7, none⟩ = false ∧
      A3.cell? ⟨wr.heap.size, 9, none⟩ = some (.slice y.e.a y.e.n y.e.c) ∧ (A3.alloc (.cells #[] 109)).cell? ⟨wr.heap.size, 9, none⟩ = some (.slice y.e.a y.e.n y.e.c) ∧ (∀ ty, (appV #[56, 56] ty #[.slice (some ⟨A3.heap.size, 0, none⟩) 0 0, .slice y.e.a y.e.n y.e.c]).run Tryz.prog (A3.alloc (.cells #[] 109)) = .ok (.slice ea y.e.n ec) B2) ∧ B2.setCell ⟨wr.heap.size, 9, none⟩ (.slice ea y.e.n ec) = B3 ∧ (∃ u, B2.cell? ⟨wr.heap.size, 9, none⟩ = some u) ∧ B2.frozen? ⟨wr.heap.size, 9, none⟩ = false ∧
      B3.cell? ⟨w.heap.size, 3, none⟩ = some (.slice a I c) ∧ NqC wr.heap.size 0 ⟨y.x, ⟨da, y.d.n, dc⟩, ⟨ea, y.e.n, ec⟩⟩ B3 ∧ (∀ ty, (appV #[35, 35] ty #[.slice a I c, .slice (some ⟨B3.heap.size, 0, none⟩) 1 1]).run Tryz.prog (B3.alloc (.cells (nqC ⟨y.x, ⟨da, y.d.n, dc⟩, ⟨ea, y.e.n, ec⟩⟩) 58)) = .ok (.slice a' (I + 1) c') C2) ∧ C2.cell? ⟨w.heap.size, 3, none⟩ = some (.slice a I c) ∧ C2.frozen? ⟨w.heap.size, 3, none⟩ = false ∧ C2.setCell ⟨w.heap.size, 3, none⟩ (.slice a' (I + 1) c') = C3 ∧ CpI w X (N ++ [y.x]) a' c' (I + 1) C3 := by
  obtain ⟨k1, k2, k3, l, k5, k6, k7⟩ := H
  subst k7
  have hN3 : Nw wr V3 := by rw [← hV3]; exact (Fr.refl _ _).alloc _
  have hs3 : V3.heap.size = wr.heap.size + 1 := by rw [← hV3]; simp
  have hn3 : V3.heap[wr.heap.size]? = some (.cells (nqC y) 58) := by rw [← hV3]; exact nh wr _
  have hszw := k1.size
  have hpb := blt k2
  have hrb := blt k3
  have hdn := hy.dn.1
  have hen := hy.en.1
  -- the bytes
  have hNA : Nw V3 (V3.alloc (.cells #[] 5)) := (Fr.refl _ _).alloc _
  obtain ⟨vd, gd, A2, b1, b2, b3, b4⟩ := app_any (V3.alloc (.cells #[] 5)) V3.heap.size _ [] (Ow.empty V3) (.slice y.d.a y.d.n y.d.c) y.x.data (((hy.nw hN3).nw hNA).1) (by have := hw.dl; simp; omega)
  rw [List.nil_append] at b2
  obtain ⟨dc, ed, _, _⟩ : ∃ dc, vd = .slice (some ⟨gd, 0, none⟩) y.d.n dc ∧ y.d.n ≤ dc ∧ dc < 9223372036854775808 := by
    obtain ⟨xs, e1, e2, e3, e4, e5⟩ := b2
    exact ⟨_, by rw [hdn]; exact e1, by omega, e4⟩
  subst ed
  have fA : Fr (fun k => k = V3.heap.size) V3 A2 := hNA.any.trans b3
  have nA : Nw wr A2 := hN3.then fA (fun i hi => .inr (by omega))
  have mA : A2.heap[wr.heap.size]? = some (.cells (nqC y) 58) := fA.heap hn3 (by omega)
  obtain ⟨A3, hA3⟩ : ∃ A3, A2.setCell ⟨wr.heap.size, 7, none⟩ (.slice (some ⟨gd, 0, none⟩) y.d.n dc) = A3 := ⟨_, rfl⟩
  have fA3 : Fr (fun k => k = wr.heap.size) A2 A3 := by rw [← hA3]; exact (Fr.refl (fun k => k = wr.heap.size) A2).setCell ⟨wr.heap.size, 7, none⟩ _ (.inl rfl)
  have nA3 : Nw wr A3 := nA.then fA3 (fun i hi => .inr (by omega))
  have mA3 : A3.heap[wr.heap.size]? = some (.cells (nqC ⟨y.x, ⟨some ⟨gd, 0, none⟩, y.d.n, dc⟩, y.e⟩) 58) := by rw [← hA3]; exact rset mA 7 _
  have hgd : wr.heap.size < gd := by
    rcases b4 with e | e
    · rw [e]; omega
    · have := hNA.size; omega
  have dA3 : Ow gd (.slice (some ⟨gd, 0, none⟩) y.d.n dc) y.x.data A3 := b2.kept fA3 (by omega)
  -- the entries
  have hNB : Nw A3 (A3.alloc (.cells #[] 109)) := (Fr.refl _ _).alloc _
  obtain ⟨ve, ge, B2, c1, c2, c3, c4⟩ := owR_app rnmOk (A3.alloc (.cells #[] RNm.T)) A3.heap.size _ [] (OwR.empty A3) (.slice y.e.a y.e.n y.e.c) y.x.ents (((hy.nw nA3).nw hNB).2) (by have := hw.el; simp only [RNm, List.length_nil]; omega) (by have := hw.el; simp only [List.length_nil]; omega)
  rw [List.nil_append] at c2
  obtain ⟨ec, ee, _, _⟩ := c2.form
  rw [← hen] at ee
  subst ee
  have sA3 := nA3.size
  have hszA : wr.heap.size < A3.heap.size := blt mA3
  have fB : Fr (fun k => k = A3.heap.size) A3 B2 := hNB.any.trans c3
  have nB : Nw wr B2 := nA3.then fB (fun i hi => .inr (by omega))
  have mB : B2.heap[wr.heap.size]? = some (.cells (nqC ⟨y.x, ⟨some ⟨gd, 0, none⟩, y.d.n, dc⟩, y.e⟩) 58) := fB.heap mA3 (by omega)
  obtain ⟨B3, hB3⟩ : ∃ B3, B2.setCell ⟨wr.heap.size, 9, none⟩ (.slice (some ⟨ge, 0, none⟩) y.e.n ec) = B3 := ⟨_, rfl⟩
  have fB3 : Fr (fun k => k = wr.heap.size) B2 B3 := by rw [← hB3]; exact (Fr.refl (fun k => k = wr.heap.size) B2).setCell ⟨wr.heap.size, 9, none⟩ _ (.inl rfl)
  have nB3 : Nw wr B3 := nB.then fB3 (fun i hi => .inr (by omega))
  have mB3 : B3.heap[wr.heap.size]? = some (.cells (nqC ⟨y.x, ⟨some ⟨gd, 0, none⟩, y.d.n, dc⟩, ⟨some ⟨ge, 0, none⟩, y.e.n, ec⟩⟩) 58) := by rw [← hB3]; exact rset mB 9 _
  have hge : wr.heap.size < ge := by
    rcases c4 with e | e
    · rw [e]; omega
    · have : A3.heap.size ≤ (A3.alloc (.cells #[] RNm.T)).heap.size := by simp
      omega
  have hgdl : gd < A3.heap.size := dA3.lt
  have dB3 : Ow gd (.slice (some ⟨gd, 0, none⟩) y.d.n dc) y.x.data B3 := (dA3.kept fB (by omega)).kept fB3 (by omega)
  have eB3 : OwR RNm ge (.slice (some ⟨ge, 0, none⟩) y.e.n ec) y.x.ents B3 := c2.kept fB3 (by omega)
  -- the list
  have hNq : NqI w ⟨y.x, ⟨some ⟨gd, 0, none⟩, y.d.n, dc⟩, ⟨some ⟨ge, 0, none⟩, y.e.n, ec⟩⟩ B3 := ⟨⟨some gd, dB3, fun g hg => by injection hg with hg; omega⟩, some ge, eB3, fun g hg => by injection hg with hg; omega⟩
  obtain ⟨a', c', C2, r1, r2, r3⟩ := (k5.nw nB3).push hI _ hNq
  have t2 := tg_cells (nB3.heap k2)
  have t3 := tg_cells (nB3.heap k3)
  have m2 := r3.heap (nB3.heap k2) (fun e => by rw [t2] at e; exact absurd e.2 (by decide))
  have m3 := r3.heap (nB3.heap k3) (fun e => by rw [t3] at e; exact absurd e.2 (by decide))
  obtain ⟨C3, hC3⟩ : ∃ C3, C2.setCell ⟨w.heap.size, 3, none⟩ (.slice a' (l.length + 1) c') = C3 := ⟨_, rfl⟩
  have fC : Fr (fun k => k = w.heap.size) C2 C3 := by rw [← hC3]; exact (Fr.refl (fun k => k = w.heap.size) C2).setCell ⟨w.heap.size, 3, none⟩ _ (.inl rfl)
  have hNC : Nw w C2 := (k1.trans nB3).then r3 (fun i hi => .inr hi.1)
  have tC := tg_cells m2
  have n3c : (nqC y)[9]? = some (.slice y.e.a y.e.n y.e.c) := rfl
  refine ⟨some ⟨gd, 0, none⟩, dc, A2, A3, some ⟨ge, 0, none⟩, ec, B2, B3, a', c', C2, C3, b1, hA3, ⟨_, (rc mA 7 _ rfl).1⟩, (rc mA 7 (.slice y.d.a y.d.n y.d.c) rfl).2, (rc mA3 9 _ rfl).1, hNB.cell (rc mA3 9 _ rfl).1, c1, hB3, ⟨_, (rc mB 9 _ rfl).1⟩, (rc mB 9 (.slice y.e.a y.e.n y.e.c) rfl).2, (rc (nB3.heap k2) 3 _ rfl).1, ⟨(rc mB3 0 _ rfl).1, (rc mB3 1 _ rfl).1, (rc mB3 2 _ rfl).1, (rc mB3 3 _ rfl).1, (rc mB3 4 _ rfl).1, (rc mB3 5 _ rfl).1, (rc mB3 6 _ rfl).1, (rc mB3 7 _ rfl).1, (rc mB3 8 _ rfl).1, (rc mB3 9 _ rfl).1⟩, r1, (rc m2 3 _ rfl).1, (rc m2 3 (.slice a l.length c) rfl).2, hC3, hNC.then fC (fun i hi => .inr (by omega)), ?_, fC.heap m3 (by omega), l ++ [⟨y.x, ⟨some ⟨gd, 0, none⟩, y.d.n, dc⟩, ⟨some ⟨ge, 0, none⟩, y.e.n, ec⟩⟩], ?_, by rw [List.map_append, k6]; rfl, by simp⟩
  · rw [← hC3]; exact rset m2 3 _
  · obtain ⟨q1, ⟨og, q2, q3⟩, q4⟩ := r2
    refine ⟨hNC.then fC (fun i hi => .inr (by omega)), ⟨og, q2.kept fC (fun g' hg' e => ?_), q3⟩, fun z hz => ?_⟩
    · have := ogr_tg q2 g' hg'
      rw [e, tC] at this; exact absurd this (by decide)
    · obtain ⟨⟨od, z1, z2⟩, oe, z3, z4⟩ := q4 z hz
      refine ⟨⟨od, z1.kept fC (fun g' hg' e => ?_), z2⟩, oe, z3.kept fC (fun g' hg' e => ?_), z4⟩
      · rw [hg'] at z1
        have := z1.tg
        rw [e, tC] at this; exact absurd this (by decide)
      · have := ogr_tg z3 g' hg'
        rw [e, tC] at this; exact absurd this (by decide)
theorem cret {R : Ending → World → Prop} {a : Act} {w : World} {row : Array Value} (rs : Nat) (h2 : a.tmps.getD 2 undef = .pointer (some ⟨rs, 0, none⟩)) (hrow : w.heap[rs]? = some (.cells row 37)) (hsz : row.size = 4) (hd : a.defers = []) (hR : R (.returned (.agg row)) w) : bodyPost Tryz.prog Tryz.f44 R .ret a w := by
  have hi : (Tryz.prog.info? 37).map (·.size) = some row.size := by rw [hsz]; kernel_rfl
  have hl := run_loadVar_row (P := Tryz.prog) w rs 37 37 row (0, 0) _ hrow Tryz.underlying37 rfl hi
  have hp2 : a.tmps[2]?.getD undef = .pointer (some ⟨rs, 0, none⟩) := by simpa using h2
  refine bodyPost_ret ?_ hd hR
  simp [results, hp2, asAddr, hl]
/-- What Copy answers: the same image, in memory of its own. -/
def CpO (w : World) (X : Im) (e : Ending) (w' : World) : Prop := ∃ a n c l, e = .returned (imV X (.slice a n c)) ∧ ImI w (.slice a n c) l w' ∧ l.map Nq.x = X.l ∧ l.length = n
section
attribute [local go_sem ↓] appV_fold
set_option maxHeartbeats 16000000 in
theorem copy_any (X : Im) (l : List Nq) (a : Option Addr) (n c : Nat) (hl : l.map Nq.x = X.l) (hn : n = l.length) (hm : ImR (.slice a n c) l w) (hw : ∀ y ∈ l, NdW y.x) (hn9 : n ≤ 1000000000) :
    Calls Tryz.prog 44 #[imV X (.slice a n c)] w (CpO w X) := by
  obtain ⟨P, hP⟩ : ∃ P : Ending → World → Prop, P = CpO w X := ⟨_, rfl⟩
  rw [← hP]
  obtain ⟨V, hV⟩ : ∃ V, (w.alloc (.cells #[.int .i64 X.nodes, .int .i64 X.bytes, .int .i64 X.next, .slice a n c] 37)).alloc (.cells imZ 37) = V := ⟨_, rfl⟩
  have hNV : Nw w V := by rw [← hV]; exact ((Fr.refl _ _).alloc _).alloc _
  have hp0 : V.heap[w.heap.size]? = some (.cells #[.int .i64 X.nodes, .int .i64 X.bytes, .int .i64 X.next, .slice a n c] 37) := by
    rw [← hV]
    exact Nw.heap ((Fr.refl _ _).alloc _) (nh w _)
  have hr0 : V.heap[w.heap.size + 1]? = some (.cells imZ 37) := by
    rw [← hV]
    have e : (w.alloc (.cells #[.int .i64 X.nodes, .int .i64 X.bytes, .int .i64 X.next, .slice a n c] 37)).heap.size = w.heap.size + 1 := by simp
    rw [← e]
    exact nh _ _
  have i3 := (rc hp0 3 _ rfl).1
  have f3 := (rc hp0 3 (.slice a n c) rfl).2
  obtain ⟨W0, hW0⟩ : ∃ W0, V.setCell ⟨w.heap.size, 3, none⟩ (.slice none 0 0) = W0 := ⟨_, rfl⟩
  have fW : Fr (fun k => k = w.heap.size) V W0 := by rw [← hW0]; exact (Fr.refl (fun k => k = w.heap.size) V).setCell ⟨w.heap.size, 3, none⟩ _ (.inl rfl)
  have hNW : Nw w W0 := hNV.then fW (fun i hi => .inr (by omega))
  have HC0 : Hid (CpI w X [] none 0 0 W0) := ⟨hNW, by rw [← hW0]; exact rset hp0 3 _, fW.heap hr0 (by omega), [], ⟨hNW, ⟨none, ⟨rfl, rfl⟩, fun g hg => by cases hg⟩, fun y hy => by cases hy⟩, rfl, rfl⟩
  have HM := tHid hm
  have HL := tHid hl
  have HNN := tHid hn
  have HWW := tHid hw
  have HN9 := tHid hn9
  have HPE := tHid hP
  have HV := tHid hV
  clear hP hV hNV hp0 hr0 fW hNW hm hl hn hw hn9
  go_enter Tryz.func44, Tryz.ntmps44
  go_upto_region 1 with fail
  rw [HV.out]
  clear HV
  go_wp2_with fail
  clear i3 f3 hW0
  go_loopg [4] n (fun kx i wr => ∃ (I : Nat) (b : Option Addr) (d : Nat), I ≤ n ∧ n - I ≤ kx ∧ i = .int .i64 I ∧ Hid (CpI w X (X.l.take I) b d I wr))
  case atStart => exact ⟨0, none, 0, by omega, by omega, rfl, HC0⟩
  case round =>
    clear HC0
    obtain ⟨I, b, d, hI, hkx, rfl, HR⟩ := hrel
    by_cases hlt : I < n
    · have hIl : I < l.length := by rw [← HNN.out]; exact hlt
      obtain ⟨g, o, rfl, hc⟩ := (HM.out.nw HR.out.1).at I hIl
      obtain ⟨y, hy⟩ : ∃ y, l[I] = y := ⟨_, rfl⟩
      rw [hy] at hc
      have hmy : y ∈ l := by rw [← hy]; exact List.getElem_mem hIl
      obtain ⟨c0, c1, c2, c3, c4, c5, c6, c7, c8, c9⟩ := hc
      have hry : NqR y wr := (HM.out.nw HR.out.1).2 y hmy
      have htk : X.l.take (I + 1) = X.l.take I ++ [y.x] := by
        rw [List.take_add_one, ← HL.out, List.getElem?_map, List.getElem?_eq_getElem hIl, hy]; rfl
      obtain ⟨V3, hV3⟩ : ∃ V3, wr.alloc (.cells (nqC y) 58) = V3 := ⟨_, rfl⟩
      have hN3 : Nw wr V3 := by rw [← hV3]; exact (Fr.refl _ _).alloc _
      have hd3 := NqC.made wr y
      rw [hV3] at hd3
      obtain ⟨da, dc, A2, A3, ea, ec, B2, B3, a', c', C2, C3, b1, b2, ⟨u1, b3⟩, b4, b5, b6, b7, b8, ⟨u2, b9⟩, b10, b11, b12, b13, b14, b15, b16, b17⟩ := cp_step HR.out (by have := HN9.out; omega) y hry (HWW.out y hmy) hV3
      obtain ⟨_, _, _, _, _, _, _, z7, _, _⟩ := hd3
      simp only [Nat.zero_add] at z7
      have y7 : (V3.alloc (.cells #[] 5)).cell? ⟨wr.heap.size, 7, none⟩ = some (.slice y.d.a y.d.n y.d.c) := Nw.cell ((Fr.refl _ _).alloc _) z7
      obtain ⟨x0, x1, x2, x3, x4, x5, x6, x7, x8, x9⟩ := b12
      simp only [Nat.zero_add] at x1 x2 x3 x4 x5 x6 x7 x8 x9
      rw [← htk] at b17
      have HNX := tHid b17
      have hlt2 : (I : Int) < (n : Int) := by omega
      have hltd := decide_eq_true hlt2
      have hltn := decide_eq_true hlt
      have zwj : IntKind.i64.wrap ((I : Int) + 1) = (I : Int) + 1 := by rw [IntKind.wrap_i64]; have := HN9.out; omega
      have HV3 := tHid hV3
      unfold nqC at HV3
      simp only [nqC] at b13
      clear hIl hy hmy hry htk hV3 hN3 HR HM HL HWW b17 HPE
      go_upto_region 7 with fail
      rw [HV3.out]
      clear HV3 c0 c1 c2 c3 c4 c5 c6 c7 c8 c9
      go_wp2_with fail
      go_roundg (n - (I + 1))
      case measure => omega
      case rel => exact ⟨I + 1, a', c', by omega, by omega, by first | rfl | (congr 1), HNX⟩
    · have hIe : I = n := by omega
      have hlt2 : ¬ (I : Int) < (n : Int) := by omega
      have hltd := decide_eq_false hlt2
      have hltn := decide_eq_false hlt
      obtain ⟨k1, k2, k3, lq, k5, k6, k7⟩ := HR.out
      have y0 := (rc k2 0 _ rfl).1
      have y1 := (rc k2 1 _ rfl).1
      have y2 := (rc k2 2 _ rfl).1
      have y3 := (rc k2 3 _ rfl).1
      have r0 := (rc k3 0 _ rfl).1
      have g0 := (rc k3 0 (.int .i64 0) rfl).2
      obtain ⟨R1, hR1⟩ : ∃ R1, wr.setCell ⟨w.heap.size + 1, 0, none⟩ (.int .i64 X.nodes) = R1 := ⟨_, rfl⟩
      have e1 : R1.heap[w.heap.size + 1]? = some (.cells #[.int .i64 X.nodes, .int .i64 0, .int .i64 0, .slice none 0 0] 37) := by rw [← hR1]; exact rset k3 0 _
      have r1 := (rc e1 1 _ rfl).1
      have g1 := (rc e1 1 (.int .i64 0) rfl).2
      obtain ⟨R2, hR2⟩ : ∃ R2, R1.setCell ⟨w.heap.size + 1, 1, none⟩ (.int .i64 X.bytes) = R2 := ⟨_, rfl⟩
      have e2 : R2.heap[w.heap.size + 1]? = some (.cells #[.int .i64 X.nodes, .int .i64 X.bytes, .int .i64 0, .slice none 0 0] 37) := by rw [← hR2]; exact rset e1 1 _
      have r2 := (rc e2 2 _ rfl).1
      have g2 := (rc e2 2 (.int .i64 0) rfl).2
      obtain ⟨R3, hR3⟩ : ∃ R3, R2.setCell ⟨w.heap.size + 1, 2, none⟩ (.int .i64 X.next) = R3 := ⟨_, rfl⟩
      have e3 : R3.heap[w.heap.size + 1]? = some (.cells #[.int .i64 X.nodes, .int .i64 X.bytes, .int .i64 X.next, .slice none 0 0] 37) := by rw [← hR3]; exact rset e2 2 _
      have r3 := (rc e3 3 _ rfl).1
      have g3 := (rc e3 3 (.slice none 0 0) rfl).2
      obtain ⟨R4, hR4⟩ : ∃ R4, R3.setCell ⟨w.heap.size + 1, 3, none⟩ (.slice b I d) = R4 := ⟨_, rfl⟩
      have e4 : R4.heap[w.heap.size + 1]? = some (.cells (ciC X (.slice b I d)) 37) := by rw [← hR4]; exact rset e3 3 _
      have fs : Fr (fun k => k = w.heap.size + 1) wr R4 := by
        rw [← hR4, ← hR3, ← hR2, ← hR1]
        exact ((((Fr.refl (fun k => k = w.heap.size + 1) wr).setCell ⟨w.heap.size + 1, 0, none⟩ _ (.inl rfl)).setCell ⟨w.heap.size + 1, 1, none⟩ _ (.inl rfl)).setCell ⟨w.heap.size + 1, 2, none⟩ _ (.inl rfl)).setCell ⟨w.heap.size + 1, 3, none⟩ _ (.inl rfl)
      have tW := tg_cells k3
      have HF : Hid (P (.returned (.agg (ciC X (.slice b I d)))) R4) := by
        show P _ _
        rw [HPE.out]
        have hlenX : X.l.length = n := by rw [← HL.out, List.length_map, HNN.out]
        refine ⟨b, I, d, lq, rfl, ?_, by rw [k6, hIe, ← hlenX, List.take_length], k7⟩
        obtain ⟨q1, ⟨og, q2, q3⟩, q4⟩ := k5
        refine ⟨q1.then fs (fun i hi => .inr (by omega)), ⟨og, q2.kept fs (fun g' hg' e => ?_), q3⟩, fun z hz => ?_⟩
        · have := ogr_tg q2 g' hg'
          rw [e, tW] at this; exact absurd this (by decide)
        · obtain ⟨⟨od, z1, z2⟩, oe, z3, z4⟩ := q4 z hz
          refine ⟨⟨od, z1.kept fs (fun g' hg' e => ?_), z2⟩, oe, z3.kept fs (fun g' hg' e => ?_), z4⟩
          · rw [hg'] at z1
            have := z1.tg
            rw [e, tW] at this; exact absurd this (by decide)
          · have := ogr_tg z3 g' hg'
            rw [e, tW] at this; exact absurd this (by decide)
      have HROW := tHid e4
      clear HR HM HL HWW HNN HN9 HPE k1 k2 k3 k5 k6 k7 e1 e2 e3 e4 fs tW hIe
      go_wp2_with fail
      exact cret (w.heap.size + 1) (by first | rfl | simp [Act.put]) HROW.out rfl rfl HF.out
end
end Go.Proofs.YtcogkhcfpgelhaaGreat

namespace Go.Proofs.YtcogkhcfpgelhaaGreat
open Go.RowKit
set_option linter.unusedVariables false
set_option maxRecDepth 100000
variable {fb mb : Nat} {ot : Option Nat} {L : Int → Lay} {h : Hx} {q : Int → Option Pn} {cnt : Nat} {T : List Ac} {w w' : World} {X : Nat → Prop}
def MvF (fb mb : Nat) (ot : Option Nat) (L : Int → Lay) (h : Hx) (q : Int → Option Pn) (cnt : Nat) (T : List Ac) (d t x : Int) (s s2 : Tx) (wy : Option (Int × Pn)) (px2 : Pn) (w w' : World) : Prop :=
  FsH fb mb ot L (leaH (wayH h wy) px2) (leaQ (entQ (wayQ q t s2 wy) t s2 x) d s x px2) (leaN (wayN cnt wy) px2) T w' ∧ Fr (Bk fb mb ot L q) w w'
set_option maxHeartbeats 8000000 in
theorem move_fr (H : FsH fb mb ot L h q cnt T w) (d t x : Int) (hd64 : I64 d) (ht64 : I64 t) (hx64 : I64 x) (s s2 : Tx) (hs : s.length ≤ 140737488351232) (hs2 : s2.length ≤ 140737488351232)
    {pd pt : Pn} (hd : q d = some pd) (hkd : pd.kind = 1) (hfd : pd.ents s = some x) (ht : q t = some pt) (hkt : pt.kind = 1) (wy : Option (Int × Pn)) (hw : WayOk q h t pt s2 wy)
    {pt1 px1 : Pn} (ht1 : wayQ q t s2 wy t = some pt1) (hk1 : pt1.kind = 1) (hf1 : pt1.ents s2 = none) (hn1 : pt1.ne ≤ 1000000000000000) (hx1 : wayQ q t s2 wy x = some px1) (htx : t ≠ x) (hl1 : 0 ≤ px1.links ∧ px1.links ≤ 1000000000000000)
    {pd2 px2 : Pn} (hd2 : entQ (wayQ q t s2 wy) t s2 x d = some pd2) (hk2 : pd2.kind = 1) (hf2 : pd2.ents s = some x) (hx2 : entQ (wayQ q t s2 wy) t s2 x x = some px2) (hdx : d ≠ x) (hl2 : 1 ≤ px2.links ∧ px2.links ≤ 1000000000000000) (hh2 : 0 ≤ (wayH h wy).held ∧ (wayH h wy).held ≤ 1000000000000000 ∧ px2.data.length ≤ 1000000000000000)
    {px : Pn} (hqx : q x = some px) :
    Calls Tryz.prog 103 #[.pointer (some ⟨fb, 0, none⟩), .agg #[.int .i64 d, .string (mk s)], .agg #[.int .i64 t, .string (mk s2)]] w fun e w' => (∃ r, e = .returned r) ∧ MvF fb mb ot L h q cnt T d t x s s2 wy px2 w w' := by
  obtain ⟨P, hP⟩ : ∃ P : Ending → World → Prop, P = fun e w' => (∃ r, e = .returned r) ∧ MvF fb mb ot L h q cnt T d t x s s2 wy px2 w w' := ⟨_, rfl⟩
  rw [← hP]
  obtain ⟨V2, hV2⟩ : ∃ V2, V2 = (w.alloc (.cells #[.int .i64 d, .string (mk s)] 127)).alloc (.cells #[.int .i64 t, .string (mk s2)] 127) := ⟨_, rfl⟩
  have hN2 : Nw w V2 := by rw [hV2]; exact ((Fr.refl _ _).alloc _).alloc _
  have hs1 : (w.alloc (.cells #[.int .i64 d, .string (mk s)] 127)).heap.size = w.heap.size + 1 := by simp
  have hsz2 : V2.heap.size = w.heap.size + 2 := by rw [hV2]; simp
  have hfm : fb < w.heap.size ∧ mb < w.heap.size := ⟨H.lt _ (.inl rfl), H.lt _ (.inr (.inl rfl))⟩
  have HB : Hid (∀ V, Fr (Bk fb mb ot L q) V2 V → V.cell? ⟨w.heap.size, 0, none⟩ = some (.int .i64 d) ∧ V.cell? ⟨w.heap.size, 1, none⟩ = some (.string (mk s)) ∧ V.cell? ⟨w.heap.size + 1, 0, none⟩ = some (.int .i64 t) ∧ V.cell? ⟨w.heap.size + 1, 1, none⟩ = some (.string (mk s2))) := fun V hV => by
    have hn : Nw (w.alloc (.cells #[.int .i64 d, .string (mk s)] 127)) V2 := by rw [hV2]; exact (Fr.refl _ _).alloc _
    have a1 : ∀ j v, (#[.int .i64 d, .string (mk s)] : Array Value)[j]? = some v → V2.cell? ⟨w.heap.size, j, none⟩ = some v := fun j v hv => hn.cell (rc (nh w _) j v hv).1
    have a2 : ∀ j v, (#[.int .i64 t, .string (mk s2)] : Array Value)[j]? = some v → V2.cell? ⟨w.heap.size + 1, j, none⟩ = some v := fun j v hv => by
      rw [hV2, ← hs1]; exact (rc (nh _ _) j v hv).1
    exact ⟨hV.cellv (a1 0 _ rfl) (fun hK => by have : w.heap.size < w.heap.size := H.lt _ hK; omega), hV.cellv (a1 1 _ rfl) (fun hK => by have : w.heap.size < w.heap.size := H.lt _ hK; omega), hV.cellv (a2 0 _ rfl) (fun hK => by have : w.heap.size + 1 < w.heap.size := H.lt _ hK; omega), hV.cellv (a2 1 _ rfl) (fun hK => by have : w.heap.size + 1 < w.heap.size := H.lt _ hK; omega)⟩
  have HA1 : Hid (Calls Tryz.prog 99 #[.pointer (some ⟨fb, 0, none⟩), .agg #[.int .i64 d, .string (mk s)]] V2 fun e w' => e = .returned (.int .i64 x) ∧ Hid (Nw V2 w')) := by
    have := at_any (H.nw hN2) d hd64 s hs hd hkd
    rw [hfd] at this
    exact this
  have HA2 : Hid (∀ V, Nw V2 V → Calls Tryz.prog 99 #[.pointer (some ⟨fb, 0, none⟩), .agg #[.int .i64 t, .string (mk s2)]] V fun e w' => e = .returned (.int .i64 ((pt.ents s2).getD 0)) ∧ Hid (Nw V2 w')) := fun V hV => (at_any (H.nw (hN2.trans hV)) t ht64 s2 hs2 ht hkt).mono (fun e w' hh => ⟨hh.1, hV.trans hh.2⟩)
  obtain ⟨S1, hS1⟩ : ∃ S1 : World → Prop, S1 = fun V => FsH fb mb ot L (wayH h wy) (wayQ q t s2 wy) (wayN cnt wy) T V ∧ Fr (Bk fb mb ot L q) V2 V := ⟨_, rfl⟩
  have HW : Hid (∀ y py, wy = some (y, py) → ∀ V, Nw V2 V → Calls Tryz.prog 124 #[.pointer (some ⟨fb, 0, none⟩), .agg #[.int .i64 t, .string (mk s2)]] V fun e w' => (∃ r, e = .returned r) ∧ Hid (S1 w')) := fun y py e V hV => by
    subst e
    obtain ⟨w1, w2, w3, w4, w5, w6, w7⟩ := hw
    refine Calls.mono (leave_any (H.nw (hN2.trans hV)) t y ht64 w3 s2 hs2 ht hkt w1 w4 w5 w6 w7) ?_
    rintro e w' ⟨hr, g1, g2⟩
    refine ⟨hr, ?_⟩
    show S1 w'
    rw [hS1]
    exact ⟨g1, hV.any.trans (g2.mono (fun i hi => .inl (by
      rcases hi with rfl | rfl | rfl | rfl
      · exact .inr (.inr (.inr ⟨t, pt, ht, .inr (.inl ⟨hkt, rfl⟩)⟩))
      · exact .inr (.inr (.inr ⟨y, py, w4, .inl rfl⟩))
      · exact .inl rfl
      · exact .inr (.inl rfl))))⟩
  have HW0 : Hid (wy = none → ∀ V, Nw V2 V → S1 V) := fun e V hV => by
    subst e
    rw [hS1]
    exact ⟨H.nw (hN2.trans hV), hV.any⟩
  obtain ⟨S2, hS2⟩ : ∃ S2 : World → Prop, S2 = fun V => FsH fb mb ot L (wayH h wy) (entQ (wayQ q t s2 wy) t s2 x) (wayN cnt wy) T V ∧ Fr (Bk fb mb ot L q) V2 V := ⟨_, rfl⟩
  have HEn : Hid (∀ V, S1 V → Calls Tryz.prog 100 #[.pointer (some ⟨fb, 0, none⟩), .agg #[.int .i64 t, .string (mk s2)], .int .i64 x] V fun e w' => (∃ r, e = .returned r) ∧ Hid (S2 w')) := fun V hV => by
    rw [hS1] at hV
    refine Calls.mono (enter_any hV.1 t x ht64 hx64 s2 hs2 ht1 hk1 hf1 hn1 hx1 htx hl1) ?_
    rintro e w' ⟨hr, g1, g2⟩
    refine ⟨hr, ?_⟩
    show S2 w'
    rw [hS2]
    exact ⟨g1, hV.2.trans (g2.mono (fun i hi => .inl (by
      rcases hi with rfl | rfl
      · exact .inr (.inr (.inr ⟨t, pt, ht, .inr (.inl ⟨hkt, rfl⟩)⟩))
      · exact .inr (.inr (.inr ⟨x, px, hqx, .inl rfl⟩)))))⟩
  have HLv : Hid (∀ V, S2 V → Calls Tryz.prog 124 #[.pointer (some ⟨fb, 0, none⟩), .agg #[.int .i64 d, .string (mk s)]] V fun e w' => (∃ r, e = .returned r) ∧ Hid (∀ r, P (.returned r) w')) := fun V hV => by
    rw [hS2] at hV
    refine Calls.mono (leave_any hV.1 d x hd64 hx64 s hs hd2 hk2 hf2 hx2 hdx hl2 hh2) ?_
    rintro e w' ⟨hr, g1, g2⟩
    refine ⟨hr, fun r => ?_⟩
    rw [hP]
    exact ⟨⟨r, rfl⟩, g1, (hN2.any.trans hV.2).trans (g2.mono (fun i hi => .inl (by
      rcases hi with rfl | rfl | rfl | rfl
      · exact .inr (.inr (.inr ⟨d, pd, hd, .inr (.inl ⟨hkd, rfl⟩)⟩))
      · exact .inr (.inr (.inr ⟨x, px, hqx, .inl rfl⟩))
      · exact .inl rfl
      · exact .inr (.inl rfl))))⟩
  have HBN : Hid (∀ V, S1 V → Fr (Bk fb mb ot L q) V2 V) := fun V hV => by rw [hS1] at hV; exact hV.2
  have HBN2 : Hid (∀ V, S2 V → Fr (Bk fb mb ot L q) V2 V) := fun V hV => by rw [hS2] at hV; exact hV.2
  obtain ⟨c0, c1, c2, c3⟩ := HB.out V2 (Fr.refl _ _)
  have HV := tHid hV2
  cases wy with
  | none =>
    have hpn : pt.ents s2 = none := hw
    rw [hpn] at HA2
    clear H hP hV2 hN2 hs1 hsz2 hfm hd hkd hfd ht hkt hw ht1 hk1 hf1 hn1 hx1 htx hl1 hd2 hk2 hf2 hx2 hdx hl2 hh2 hqx hS1 hS2 HW hpn hs hs2 hd64 ht64 hx64
    generalize mk s = ss at *
    generalize mk s2 = ss2 at *
    go_enter Tryz.func103, Tryz.ntmps103
    go_upto_region 1 with fail
    rw [← HV.out]
    clear HV
    go_upto_region 2 with (first | (go_at_call 99; with_reducible refine HA1.out.mono ?_; rintro e w3 ⟨rfl, H3⟩))
    obtain ⟨d0, d1, d2, d3⟩ := HB.out w3 H3.out.any
    have CA2 := tHid (HA2.out w3 H3.out)
    clear HA1 HA2 c0 c1 c2 c3
    go_upto_region 4 with (first | (go_at_call 99; with_reducible refine CA2.out.mono ?_; rintro e w4 ⟨rfl, H4⟩))
    obtain ⟨e0, e1, e2, e3⟩ := HB.out w4 H4.out.any
    have CE := tHid (HEn.out w4 (HW0.out (by first | trivial | rfl) w4 H4.out))
    clear CA2 d0 d1 d2 d3 HEn HW0
    go_upto_region 5 with (first | (go_at_call 100; with_reducible refine CE.out.mono ?_; rintro e w5 ⟨⟨r5, rfl⟩, H5⟩))
    obtain ⟨k0, k1, k2, k3⟩ := HB.out w5 (HBN2.out w5 H5.out)
    have CL := tHid (HLv.out w5 H5.out)
    clear CE e0 e1 e2 e3 HLv HB HBN HBN2 H3 H4 H5
    go_wp2_with (first | (go_at_call 124; with_reducible refine CL.out.mono ?_; rintro e w6 ⟨⟨r6, rfl⟩, HF⟩))
    go_end0
    exact HF.out _
  | some z =>
    obtain ⟨y, py⟩ := z
    obtain ⟨hpn, hy0, _⟩ := id hw
    have hyb : (y != 0) = true := by simp [hy0]
    rw [hpn] at HA2
    have HW1 := tHid (HW.out y py rfl)
    clear H hP hV2 hN2 hs1 hsz2 hfm hd hkd hfd ht hkt hw ht1 hk1 hf1 hn1 hx1 htx hl1 hd2 hk2 hf2 hx2 hdx hl2 hh2 hqx hS1 hS2 HW HW0 hpn hs hs2 hd64 ht64 hx64
    generalize mk s = ss at *
    generalize mk s2 = ss2 at *
    go_enter Tryz.func103, Tryz.ntmps103
    go_upto_region 1 with fail
    rw [← HV.out]
    clear HV
    go_upto_region 2 with (first | (go_at_call 99; with_reducible refine HA1.out.mono ?_; rintro e w3 ⟨rfl, H3⟩))
    obtain ⟨d0, d1, d2, d3⟩ := HB.out w3 H3.out.any
    have CA2 : Hid (Calls Tryz.prog 99 #[.pointer (some ⟨fb, 0, none⟩), .agg #[.int .i64 t, .string ss2]] w3 fun e w' => e = .returned (.int .i64 y) ∧ Hid (Nw V2 w')) := HA2.out w3 H3.out
    clear HA1 HA2 c0 c1 c2 c3
    go_upto_region 3 with (first | (go_at_call 99; with_reducible refine CA2.out.mono ?_; rintro e w4 ⟨rfl, H4⟩))
    obtain ⟨e0, e1, e2, e3⟩ := HB.out w4 H4.out.any
    have CW := tHid (HW1.out w4 H4.out)
    clear CA2 d0 d1 d2 d3 HW1
    go_upto_region 4 with (first | (go_at_call 124; with_reducible refine CW.out.mono ?_; rintro e w7 ⟨⟨r7, rfl⟩, H7⟩))
    obtain ⟨n0, n1, n2, n3⟩ := HB.out w7 (HBN.out w7 H7.out)
    have CE := tHid (HEn.out w7 H7.out)
    clear CW e0 e1 e2 e3 HEn
    go_upto_region 5 with (first | (go_at_call 100; with_reducible refine CE.out.mono ?_; rintro e w5 ⟨⟨r5, rfl⟩, H5⟩))
    obtain ⟨k0, k1, k2, k3⟩ := HB.out w5 (HBN2.out w5 H5.out)
    have CL := tHid (HLv.out w5 H5.out)
    clear CE n0 n1 n2 n3 HLv HB HBN HBN2 H3 H4 H5 H7
    go_wp2_with (first | (go_at_call 124; with_reducible refine CL.out.mono ?_; rintro e w6 ⟨⟨r6, rfl⟩, HF⟩))
    go_end0
    exact HF.out _
end Go.Proofs.YtcogkhcfpgelhaaGreat

namespace Go.Proofs.YtcogkhcfpgelhaaGreat
open Go.RowKit
set_option linter.unusedVariables false
set_option maxRecDepth 100000
/-! ### Rename, pure -/
open Classical in
noncomputable def stkP (l : List Nd) (x y t : Int) : Int := if y ≠ 0 ∧ (isDirQ (qOf l) x != isDirQ (qOf l) y) = true then 106 else if isDirQ (qOf l) x = true ∧ Sub l x t then 108 else if y ≠ 0 ∧ neQ (qOf l) y = true then 109 else 0
/-- The inode that an entry names; 0: none does. -/
def entX (l : List Nd) (d : Int) (s : Tx) : Int := ((get l d).bind (fun x => entL x.ents s)).getD 0
noncomputable def renE (l : List Nd) (d : Int) (s : Tx) (t : Int) (s2 : Tx) : Int := if unfQ (qOf l) [(d, s), (t, s2)] ≠ 0 then unfQ (qOf l) [(d, s), (t, s2)] else if entX l d s = 0 then 103 else if entX l d s = entX l t s2 then 0 else stkP l (entX l d s) (entX l t s2) t
def wayL (l : List Nd) (t : Int) (s2 : Tx) (y : Int) : List Nd := if y = 0 then l else leaL l t s2 y
def renR (l : List Nd) (d : Int) (s : Tx) (t : Int) (s2 : Tx) : List Nd := if entX l d s = entX l t s2 then l else renL (wayL l t s2 (entX l t s2)) d s t s2 (entX l d s)
theorem unfQ_two {q : Int → Option Pn} {d t : Int} {s s2 : Tx} (hu : unfQ q [(d, s), (t, s2)] = 0) : (∃ pd, q d = some pd ∧ pd.kind = 1) ∧ (∃ pt, q t = some pt ∧ pt.kind = 1) ∧ nmOk s = true ∧ nmOk s2 = true := by
  unfold unfQ at hu
  simp only [List.any_cons, List.any_nil, Bool.or_false] at hu
  split at hu
  · cases hu
  · rename_i h1
    split at hu
    · cases hu
    · rename_i h2
      split at hu
      · cases hu
      · rename_i h3
        simp only [Bool.or_eq_true, not_or, Bool.not_eq_true', Bool.not_eq_true, Bool.not_eq_false] at h1 h2 h3
        have dir : ∀ k, isDirQ q k = true → ∃ p, q k = some p ∧ p.kind = 1 := fun k h => by
          unfold isDirQ at h
          cases hq : q k with
          | none => rw [hq] at h; cases h
          | some p => rw [hq] at h; exact ⟨p, rfl, by simpa using h⟩
        exact ⟨dir d h2.1, dir t h2.2, h3.1, h3.2⟩
theorem wf_entOk {X : Im} (h : WF X) {d n : Int} {s : Tx} {xd : Nd} (hd : get X.l d = some xd) (he : entL xd.ents s = some n) : ∃ xn, get X.l n = some xn ∧ n ≠ 1 ∧ 1 ≤ n ∧ n < X.next ∧ d ≠ n ∧ xd.kind = 1 := by
  obtain ⟨hm, hn⟩ := get_some hd
  obtain ⟨_, h1, y, hy, hyn⟩ := h.es xd hm _ (entL_some he)
  have hg := h.get hy
  rw [hyn] at hg
  have hk : xd.kind = 1 := by
    by_cases hk : xd.kind = 1
    · exact hk
    · rw [(h.kinds xd hm).noents hk] at he; cases he
  have := h.nums y hy
  exact ⟨y, hg, h1, by omega, by omega, wf_noself h hd he, hk⟩
theorem get_leaL {l : List Nd} (hs : Srt l) {t y : Int} {s2 : Tx} (k : Int) (hk : k ≠ y) : get (leaL l t s2 y) k = if k = t then (get l k).map (fun x => { x with ents := delE s2 x.ents }) else get l k := by
  unfold leaL
  split
  · rw [get_dropL, if_neg hk, get_rmvE]
  · rw [get_rmvE]
/-- All that Rename needs to know where it is not stuck. -/
structure RenF (X : Im) (d : Int) (s : Tx) (t : Int) (s2 : Tx) (x y : Int) (xd xt xx : Nd) : Prop where
  hd : get X.l d = some xd
  ht : get X.l t = some xt
  hx : get X.l x = some xx
  he : entL xd.ents s = some x
  kd : xd.kind = 1
  kt : xt.kind = 1
  n2 : nmOk s2 = true
  dx : d ≠ x
  tx : t ≠ x
  xy : x ≠ y
  ns : xx.kind = 1 → ¬ Sub X.l x t
  way : (y = 0 ∧ entL xt.ents s2 = none) ∨ (y ≠ 0 ∧ ∃ xy, entL xt.ents s2 = some y ∧ get X.l y = some xy ∧ xy.ents = [] ∧ t ≠ y ∧ d ≠ y)
theorem isDir_get {l : List Nd} {k : Int} {x : Nd} (h : get l k = some x) : isDirQ (qOf l) k = decide (x.kind = 1) := by
  unfold isDirQ
  rw [qOf_get h]; rfl
theorem ne_get {l : List Nd} {k : Int} {x : Nd} (h : get l k = some x) : neQ (qOf l) k = decide (0 < x.ents.length) := by
  unfold neQ
  rw [qOf_get h]; rfl
theorem renF_of {X : Im} (h : WF X) {d : Int} {s : Tx} {t : Int} {s2 : Tx} (hu : unfQ (qOf X.l) [(d, s), (t, s2)] = 0) (h0 : entX X.l d s ≠ 0) (hxy : entX X.l d s ≠ entX X.l t s2) (hst : stkP X.l (entX X.l d s) (entX X.l t s2) t = 0) : ∃ xd xt xx, RenF X d s t s2 (entX X.l d s) (entX X.l t s2) xd xt xx := by
  obtain ⟨⟨pd, hpd, hkd⟩, ⟨pt, hpt, hkt⟩, hn1, hn2⟩ := unfQ_two hu
  obtain ⟨xd, hgd, hdm, hdn, rfl⟩ := qOf_some hpd
  obtain ⟨xt, hgt, htm, htn, rfl⟩ := qOf_some hpt
  have kd : xd.kind = 1 := hkd
  have kt : xt.kind = 1 := hkt
  have ed : entX X.l d s = (entL xd.ents s).getD 0 := by unfold entX; rw [hgd]; rfl
  have et : entX X.l t s2 = (entL xt.ents s2).getD 0 := by unfold entX; rw [hgt]; rfl
  have he : entL xd.ents s = some (entX X.l d s) := by
    cases hc : entL xd.ents s with
    | none => rw [hc] at ed; exact absurd ed h0
    | some z => rw [hc] at ed; rw [ed]; rfl
  obtain ⟨xx, hgx, hx1, _, _, hdx, _⟩ := wf_entOk h hgd he
  unfold stkP at hst
  split at hst
  · cases hst
  · rename_i s1
    split at hst
    · cases hst
    · rename_i s2'
      split at hst
      · cases hst
      · rename_i s3
        have ns : xx.kind = 1 → ¬ Sub X.l (entX X.l d s) t := fun hk hs => s2' ⟨by rw [isDir_get hgx, hk]; rfl, hs⟩
        have tx : t ≠ entX X.l d s := fun e => by
          have hxt : xx = xt := by rw [← e, hgt] at hgx; injection hgx with hgx; exact hgx.symm
          have := ns (by rw [hxt]; exact kt)
          rw [← e] at this
          exact this .refl
        refine ⟨xd, xt, xx, hgd, hgt, hgx, he, kd, kt, hn2, hdx, tx, hxy, ns, ?_⟩
        cases hc : entL xt.ents s2 with
        | none => exact .inl ⟨by rw [et, hc]; rfl, rfl⟩
        | some y =>
          have ey : entX X.l t s2 = y := by rw [et, hc]; rfl
          obtain ⟨xy, hgy, hy1, hy2, _, hty, _⟩ := wf_entOk h hgt hc
          have hy0 : entX X.l t s2 ≠ 0 := by rw [ey]; omega
          have hye : xy.ents = [] := by
            have : ¬ neQ (qOf X.l) (entX X.l t s2) = true := fun h => s3 ⟨hy0, h⟩
            rw [ey, ne_get hgy] at this
            simp only [decide_eq_true_eq] at this
            exact List.eq_nil_of_length_eq_zero (by omega)
          have hdy : d ≠ y := fun e => by
            rw [e, hgy] at hgd
            injection hgd with hgd
            rw [← hgd, hye] at he
            cases he
          exact .inr ⟨hy0, xy, by rw [ey], by rw [ey]; exact hgy, hye, by rw [ey]; exact hty, by rw [ey]; exact hdy⟩
/-- Behind what was in the way. -/
theorem RenF.way1 {X : Im} (h : WF X) {d : Int} {s : Tx} {t : Int} {s2 : Tx} {x y : Int} {xd xt xx : Nd} (r : RenF X d s t s2 x y xd xt xx) : WF { X with l := wayL X.l t s2 y } ∧ ∃ xd1 xt1 xx1, Ren { X with l := wayL X.l t s2 y } d s t s2 x xd1 xt1 xx1 ∧ xd1.kind = 1 := by
  rcases r.way with ⟨hy, hf⟩ | ⟨hy, xy, hf, hgy, hye, hty, hdy⟩
  · have e : wayL X.l t s2 y = X.l := by unfold wayL; rw [if_pos hy]
    have hX : ({ X with l := wayL X.l t s2 y } : Im) = X := by rw [e]
    rw [hX]
    exact ⟨h, xd, xt, xx, ⟨r.hd, r.ht, r.hx, r.he, hf, r.kt, r.n2, r.ns⟩, r.kd⟩
  · have e : wayL X.l t s2 y = leaL X.l t s2 y := by unfold wayL; rw [if_neg hy]
    rw [e]
    refine ⟨wf_lea h r.ht hf hgy hty hye, ?_⟩
    have hne : d = t → s ≠ s2 := fun e1 e2 => by
      subst e1 e2
      have h1 := r.hd
      rw [r.ht] at h1
      injection h1 with h1
      have h2 := r.he
      rw [← h1, hf] at h2
      injection h2 with h2
      exact r.xy h2.symm
    have hgt : get (leaL X.l t s2 y) t = some { xt with ents := delE s2 xt.ents } := by rw [get_leaL h.srt t hty, if_pos rfl, r.ht]; rfl
    have hgx : get (leaL X.l t s2 y) x = some xx := by rw [get_leaL h.srt x r.xy, if_neg (fun e => r.tx e.symm)]; exact r.hx
    have hns : xx.kind = 1 → ¬ Sub (leaL X.l t s2 y) x t := fun hk hs => r.ns hk (hs.mono (fun a b => ch_leaL))
    have hfr : entL (delE s2 xt.ents) s2 = none := by rw [entL_delE, if_pos rfl]
    by_cases hdt : d = t
    · have hxe : xd = xt := by have h1 := r.hd; rw [hdt, r.ht] at h1; injection h1 with h1; exact h1.symm
      refine ⟨{ xt with ents := delE s2 xt.ents }, { xt with ents := delE s2 xt.ents }, xx, ⟨by rw [hdt]; exact hgt, hgt, hgx, ?_, hfr, r.kt, r.n2, hns⟩, r.kt⟩
      show entL (delE s2 xt.ents) s = some x
      rw [entL_delE, if_neg (hne hdt), ← hxe]; exact r.he
    · have hgd : get (leaL X.l t s2 y) d = some xd := by rw [get_leaL h.srt d hdy, if_neg hdt]; exact r.hd
      exact ⟨xd, { xt with ents := delE s2 xt.ents }, xx, ⟨hgd, hgt, hgx, r.he, hfr, r.kt, r.n2, hns⟩, r.kd⟩
theorem renE_zero {l : List Nd} {d : Int} {s : Tx} {t : Int} {s2 : Tx} (hE : renE l d s t s2 = 0) : unfQ (qOf l) [(d, s), (t, s2)] = 0 ∧ entX l d s ≠ 0 ∧ (entX l d s ≠ entX l t s2 → stkP l (entX l d s) (entX l t s2) t = 0) := by
  unfold renE at hE
  by_cases hu : unfQ (qOf l) [(d, s), (t, s2)] = 0
  · rw [if_neg (fun h => h hu)] at hE
    by_cases h0 : entX l d s = 0
    · rw [if_pos h0] at hE; cases hE
    · rw [if_neg h0] at hE
      refine ⟨hu, h0, fun hxy => ?_⟩
      rw [if_neg hxy] at hE
      exact hE
  · rw [if_pos hu] at hE; exact absurd hE hu
/-- What it comes to. -/
theorem renR_wf {X : Im} (h : WF X) {d : Int} {s : Tx} {t : Int} {s2 : Tx} (hE : renE X.l d s t s2 = 0) : WF { X with l := renR X.l d s t s2 } := by
  obtain ⟨hu, h0, hst⟩ := renE_zero hE
  unfold renR
  by_cases hxy : entX X.l d s = entX X.l t s2
  · rw [if_pos hxy]; exact h
  · rw [if_neg hxy]
    obtain ⟨xd, xt, xx, r⟩ := renF_of h hu h0 hxy (hst hxy)
    obtain ⟨h1, xd1, xt1, xx1, r1, _⟩ := r.way1 h
    exact r1.wf h1
end Go.Proofs.YtcogkhcfpgelhaaGreat

namespace Go.Proofs.YtcogkhcfpgelhaaGreat
open Go.RowKit
set_option linter.unusedVariables false
set_option maxRecDepth 100000
variable {fb mb : Nat} {ot : Option Nat} {L : Int → Lay} {T : List Ac} {w w' : World} {X : Im}
/-- No directory has too many entries. -/
def Few (X : Im) : Prop := ∀ x ∈ X.l, x.ents.length ≤ 1000000000
def RnO (fb mb : Nat) (ot : Option Nat) (L : Int → Lay) (X : Im) (T : List Ac) (d : Int) (s : Tx) (t : Int) (s2 : Tx) (w : World) (e : Ending) (w' : World) : Prop :=
  (renE X.l d s t s2 ≠ 0 ∧ e = .returned (.int .i64 (renE X.l d s t s2)) ∧ Nw w w') ∨
  (renE X.l d s t s2 = 0 ∧ e = .returned (.int .i64 0) ∧ MutO fb mb ot L (qOf X.l) (hOf { X with l := renR X.l d s t s2 }) (qOf (renR X.l d s t s2)) (renR X.l d s t s2).length (T ++ [⟨9, d, s, entX X.l d s, t, s2, 0, 0⟩]) w w')
theorem few_links (hX : WF X) (hF : Few X) (k : Int) : (lks X.l k : Int) ≤ 1000000000000000 - 2 := by
  have h1 := lks_bound hF k
  have hlen := hX.len
  have hn2 := hX.n2
  have h2 : X.l.length * 1000000000 ≤ 4096 * 1000000000 := Nat.mul_le_mul_right _ (by omega)
  omega
theorem leaQ_sub {q : Int → Option Pn} {d n k : Int} {s : Tx} {pn p : Pn} (hn : q n = some pn) (h : leaQ q d s n pn k = some p) : ∃ p', q k = some p' ∧ p'.kind = p.kind := by
  unfold leaQ at h
  split at h
  · rename_i e
    split at h
    · cases h
    · injection h with h
      exact ⟨pn, by rw [e]; exact hn, by rw [← h]; rfl⟩
  · split at h
    · rename_i e
      cases hq : q d with
      | none => rw [hq] at h; cases h
      | some x => rw [hq] at h; simp only [Option.map_some, Option.some.injEq] at h; exact ⟨x, by rw [e]; exact hq, by rw [← h]; rfl⟩
    · exact ⟨p, h, rfl⟩
/-- The move of Rename, in the image's words. -/
theorem renmove (hX : WF X) (hF : Few X) {d t x y : Int} {s s2 : Tx} {xd xt xx : Nd} (r : RenF X d s t s2 x y xd xt xx) (hs : s.length ≤ 140737488351232) (hs2 : s2.length ≤ 140737488351232) {V : World} (H : FsH fb mb ot L (hOf X) (qOf X.l) X.l.length T V) :
    Calls Tryz.prog 103 #[.pointer (some ⟨fb, 0, none⟩), .agg #[.int .i64 d, .string (mk s)], .agg #[.int .i64 t, .string (mk s2)]] V fun e w' => (∃ r, e = .returned r) ∧ FsH fb mb ot L (hOf { X with l := renL (wayL X.l t s2 y) d s t s2 x }) (qOf (renL (wayL X.l t s2 y) d s t s2 x)) (renL (wayL X.l t s2 y) d s t s2 x).length T w' ∧ Fr (Bk fb mb ot L (qOf X.l)) V w' ∧ ∀ k p, qOf (renL (wayL X.l t s2 y) d s t s2 x) k = some p → ∃ p', qOf X.l k = some p' ∧ p'.kind = p.kind := by
  obtain ⟨hX1, xd1, xt1, xx1, r1, kd1⟩ := r.way1 hX
  obtain ⟨hdm, hdn⟩ := get_some r.hd
  obtain ⟨htm, htn⟩ := get_some r.ht
  obtain ⟨hxm, hxn⟩ := get_some r.hx
  have nd := hX.nums xd hdm
  have nt := hX.nums xt htm
  have nx := hX.nums xx hxm
  have hx2 := hX.x2
  obtain ⟨wy, hwy, hWQ, hWH, hWN⟩ : ∃ wy, WayOk (qOf X.l) (hOf X) t (pnOf X.l xt) s2 wy ∧ wayQ (qOf X.l) t s2 wy = qOf (wayL X.l t s2 y) ∧ wayH (hOf X) wy = hOf { X with l := wayL X.l t s2 y } ∧ wayN X.l.length wy = (wayL X.l t s2 y).length := by
    rcases r.way with ⟨hy, hf⟩ | ⟨hy, xy, hf, hgy, hye, hty, hdy⟩
    · have e : wayL X.l t s2 y = X.l := by unfold wayL; rw [if_pos hy]
      exact ⟨none, hf, by rw [e]; rfl, by rw [e]; rfl, by rw [e]; rfl⟩
    · have e : wayL X.l t s2 y = leaL X.l t s2 y := by unfold wayL; rw [if_neg hy]
      obtain ⟨hym, hyn⟩ := get_some hgy
      have ny := hX.nums xy hym
      have hl1 := hX.lk1 xy hym
      have hl2 := few_links hX hF y
      have hlen := len_leaL hX r.ht hf hgy hty
      have hh := hX.held
      have hb2 := hX.b2
      have hdl := (hX.kinds xy hym).len
      refine ⟨some (y, pnOf X.l xy), ⟨hf, hy, ⟨by omega, by omega⟩, qOf_get hgy, hty, ⟨?_, ?_⟩, ?_, ?_, ?_⟩, ?_, ?_, ?_⟩
      · show 1 ≤ (lks X.l xy.num : Int); omega
      · show (lks X.l xy.num : Int) ≤ _; rw [hyn]; omega
      · show 0 ≤ (heldF X.l : Int); omega
      · show (heldF X.l : Int) ≤ _; omega
      · show xy.data.length ≤ _; omega
      · rw [e]; exact (q_leaL hX r.ht hf hgy hty hye).symm
      · show leaH (hOf X) (pnOf X.l xy) = _
        rw [e]
        have h1 : (leaH (hOf X) (pnOf X.l xy)).held = (heldF (leaL X.l t s2 y) : Int) := hlen.2.symm
        unfold leaH at h1 ⊢
        split at h1
        · rename_i hc
          rw [if_pos hc]
          unfold hOf at h1 ⊢
          simp only at h1 ⊢
          rw [h1]
        · rename_i hc
          rw [if_neg hc]
          unfold hOf at h1 ⊢
          simp only at h1 ⊢
          rw [h1]
      · show leaN X.l.length (pnOf X.l xy) = _
        rw [e]; exact hlen.1.symm
  have hF1 : Few { X with l := wayL X.l t s2 y } := fun z hz => by
    have hz : z ∈ wayL X.l t s2 y := hz
    unfold wayL at hz
    split at hz
    · exact hF z hz
    · have key : ∀ z ∈ rmvE X.l t s2, z.ents.length ≤ 1000000000 := fun z hz => by
        obtain ⟨z', hz', _, _, _, _, _, _, h9⟩ := mem_rmvE hz
        rcases h9 with ⟨_, h9⟩ | ⟨_, h9⟩
        · rw [h9]
          have := hF z' hz'
          have h10 : (delE s2 z'.ents).length ≤ z'.ents.length := List.length_filter_le _ _
          omega
        · rw [h9]; exact hF z' hz'
      unfold leaL at hz
      split at hz
      · exact key z (mem_dropL.1 hz).1
      · exact key z hz
  obtain ⟨htm1, htn1⟩ := get_some r1.ht
  obtain ⟨hxm1, hxn1⟩ := get_some r1.hx
  have hlk1 := few_links hX1 hF1 x
  have hl1 := hX1.lk1 xx1 hxm1
  have hdx := wf_noself hX1 r1.hd r1.he
  have htx : t ≠ x := r.tx
  have hq1x : wayQ (qOf X.l) t s2 wy x = some (pnOf (wayL X.l t s2 y) xx1) := by rw [hWQ]; exact qOf_get r1.hx
  have hq1t : wayQ (qOf X.l) t s2 wy t = some (pnOf (wayL X.l t s2 y) xt1) := by rw [hWQ]; exact qOf_get r1.ht
  have hq1d : wayQ (qOf X.l) t s2 wy d = some (pnOf (wayL X.l t s2 y) xd1) := by rw [hWQ]; exact qOf_get r1.hd
  have hex : entQ (wayQ (qOf X.l) t s2 wy) t s2 x x = some (named1 (pnOf (wayL X.l t s2 y) xx1) t) := by unfold entQ; rw [if_pos rfl, hq1x]; rfl
  have hlks : (named1 (pnOf (wayL X.l t s2 y) xx1) t).links = (lks (wayL X.l t s2 y) x : Int) + 1 := by unfold named1 pnOf; simp only [hxn1]
  have hh1 := hX1.held
  have hb1 := hX1.b2
  have hdl1 := (hX1.kinds xx1 hxm1).len
  rw [hxn1] at hl1
  have hne1 := hF1 xt1 htm1
  obtain ⟨pd2, hd2, hkd2, hfd2⟩ : ∃ pd2, entQ (wayQ (qOf X.l) t s2 wy) t s2 x d = some pd2 ∧ pd2.kind = 1 ∧ pd2.ents s = some x := by
    unfold entQ
    rw [if_neg hdx]
    by_cases hdt : d = t
    · rw [if_pos hdt, hq1t]
      have hxe : xd1 = xt1 := by have h1 := r1.hd; rw [hdt, r1.ht] at h1; injection h1 with h1; exact h1.symm
      refine ⟨putEnt (pnOf (wayL X.l t s2 y) xt1) s2 x, rfl, r1.kt, ?_⟩
      show (if s = s2 then some x else entL xt1.ents s) = some x
      by_cases hss : s = s2
      · rw [if_pos hss]
      · rw [if_neg hss, ← hxe]; exact r1.he
    · rw [if_neg hdt]
      exact ⟨_, hq1d, kd1, r1.he⟩
  have hM := move_fr H d t x ⟨by omega, by omega⟩ ⟨by omega, by omega⟩ ⟨by omega, by omega⟩ s s2 hs hs2 (qOf_get r.hd) r.kd r.he (qOf_get r.ht) r.kt wy hwy hq1t r1.kt r1.hf (by show xt1.ents.length ≤ _; omega) hq1x htx ⟨by show 0 ≤ (lks _ xx1.num : Int); omega, by show (lks _ xx1.num : Int) ≤ _; rw [hxn1]; show (lks (wayL X.l t s2 y) x : Int) ≤ _; have : (lks (wayL X.l t s2 y) x : Int) ≤ 1000000000000000 - 2 := hlk1; omega⟩ hd2 hkd2 hfd2 hex hdx ⟨by rw [hlks]; omega, by rw [hlks]; have : (lks (wayL X.l t s2 y) x : Int) ≤ 1000000000000000 - 2 := hlk1; omega⟩ ⟨by rw [hWH]; show 0 ≤ (heldF _ : Int); omega, by rw [hWH]; show (heldF (wayL X.l t s2 y) : Int) ≤ _; have : (heldF (wayL X.l t s2 y) : Int) ≤ X.bytes := hh1; have : X.bytes ≤ 4194304 := hb1; omega, by show xx1.data.length ≤ _; omega⟩ (qOf_get r.hx)
  refine Calls.mono hM ?_
  rintro e w' ⟨hr, hFs, hFr⟩
  have hnl : ¬ (named1 (pnOf (wayL X.l t s2 y) xx1) t).links = 1 := by rw [hlks]; have : 1 ≤ lks (wayL X.l t s2 y) x := hl1; omega
  have hqe := Ren.q hX1 r1 (fun e => htx e.symm)
  have hrl := ren_len (wayL X.l t s2 y) d s t s2 x
  have e1 : leaH (wayH (hOf X) wy) (named1 (pnOf (wayL X.l t s2 y) xx1) t) = hOf { X with l := renL (wayL X.l t s2 y) d s t s2 x } := by
    unfold leaH
    rw [if_neg hnl, hWH]
    unfold hOf
    simp only
    rw [hrl.2]
  have e2 : leaN (wayN X.l.length wy) (named1 (pnOf (wayL X.l t s2 y) xx1) t) = (renL (wayL X.l t s2 y) d s t s2 x).length := by
    unfold leaN
    rw [if_neg hnl, hWN, hrl.1]
  have hsub : ∀ k p, qOf (renL (wayL X.l t s2 y) d s t s2 x) k = some p → ∃ p', qOf X.l k = some p' ∧ p'.kind = p.kind := fun k p hp => by
    rw [hqe] at hp
    have hp : leaQ (entQ (wayQ (qOf X.l) t s2 wy) t s2 x) d s x (named1 (pnOf (wayL X.l t s2 y) xx1) t) k = some p := by rw [hWQ]; exact hp
    obtain ⟨p1, h1, k1⟩ := leaQ_sub hex hp
    obtain ⟨p2, h2, k2⟩ := entQ_some h1
    cases hw : wy with
    | none => rw [hw] at h2; exact ⟨p2, h2, k2.trans k1⟩
    | some z =>
      obtain ⟨y', py⟩ := z
      rw [hw] at h2 hwy
      obtain ⟨p3, h3, k3⟩ := leaQ_sub hwy.2.2.2.1 h2
      exact ⟨p3, h3, (k3.trans k2).trans k1⟩
  rw [e1, e2, hWQ, ← hqe] at hFs
  exact ⟨hr, hFs, hFr, hsub⟩
end Go.Proofs.YtcogkhcfpgelhaaGreat

namespace Go.Proofs.YtcogkhcfpgelhaaGreat
open Go.RowKit
set_option linter.unusedVariables false
set_option maxRecDepth 100000
variable {fb mb : Nat} {ot : Option Nat} {L : Int → Lay} {T : List Ac} {w w' : World} {X : Im}
set_option maxHeartbeats 8000000 in
theorem rename_any (hX : WF X) (hF : Few X) (H : FsH fb mb ot L (hOf X) (qOf X.l) X.l.length T w) (hT : T.length ≤ 2000000000000) (d t : Int) (hd64 : I64 d) (ht64 : I64 t) (s s2 : Tx) (hs : s.length ≤ 140737488351232) (hs2 : s2.length ≤ 140737488351232) :
    Calls Tryz.prog 64 #[.pointer (some ⟨fb, 0, none⟩), .int .i64 d, .string (mk s), .int .i64 t, .string (mk s2)] w (RnO fb mb ot L X T d s t s2 w) := by
  obtain ⟨P, hP⟩ : ∃ P : Ending → World → Prop, P = RnO fb mb ot L X T d s t s2 w := ⟨_, rfl⟩
  rw [← hP]
  obtain ⟨V2, hV2⟩ : ∃ V2, (w.alloc (.cells #[.int .i64 d, .string (mk s)] 127)).alloc (.cells #[.int .i64 t, .string (mk s2)] 127) = V2 := ⟨_, rfl⟩
  have hN2 : Nw w V2 := by rw [← hV2]; exact ((Fr.refl _ _).alloc _).alloc _
  have hs1 : (w.alloc (.cells #[.int .i64 d, .string (mk s)] 127)).heap.size = w.heap.size + 1 := by simp
  have HB : Hid (∀ V, Nw V2 V → V.cell? ⟨w.heap.size, 0, none⟩ = some (.int .i64 d) ∧ V.cell? ⟨w.heap.size, 1, none⟩ = some (.string (mk s)) ∧ V.cell? ⟨w.heap.size + 1, 0, none⟩ = some (.int .i64 t) ∧ V.cell? ⟨w.heap.size + 1, 1, none⟩ = some (.string (mk s2))) := fun V hV => by
    have hn : Nw (w.alloc (.cells #[.int .i64 d, .string (mk s)] 127)) V2 := by rw [← hV2]; exact (Fr.refl _ _).alloc _
    have a1 : ∀ j v, (#[.int .i64 d, .string (mk s)] : Array Value)[j]? = some v → V2.cell? ⟨w.heap.size, j, none⟩ = some v := fun j v hv => hn.cell (rc (nh w _) j v hv).1
    have a2 : ∀ j v, (#[.int .i64 t, .string (mk s2)] : Array Value)[j]? = some v → V2.cell? ⟨w.heap.size + 1, j, none⟩ = some v := fun j v hv => by
      rw [← hV2, ← hs1]; exact (rc (nh _ _) j v hv).1
    exact ⟨hV.cell (a1 0 _ rfl), hV.cell (a1 1 _ rfl), hV.cell (a2 0 _ rfl), hV.cell (a2 1 _ rfl)⟩
  have HU : Hid (Calls Tryz.prog 98 #[.pointer (some ⟨fb, 0, none⟩), .slice (some ⟨V2.heap.size, 0, none⟩) 2 2] (V2.alloc (.cells #[.int .i64 d, .string (mk s), .int .i64 t, .string (mk s2)] 127)) fun e w' => e = .returned (.int .i64 (unfQ (qOf X.l) [(d, s), (t, s2)])) ∧ Hid (Nw V2 w')) := by
    have hNa : Nw V2 (V2.alloc (.cells #[.int .i64 d, .string (mk s), .int .i64 t, .string (mk s2)] 127)) := (Fr.refl _ _).alloc _
    have hR : RdP V2.heap.size 0 [(d, s), (t, s2)] (V2.alloc (.cells #[.int .i64 d, .string (mk s), .int .i64 t, .string (mk s2)] 127)) := fun i hi => by
      have : i = 0 ∨ i = 1 := by simp at hi; omega
      rcases this with rfl | rfl
      · exact ⟨(rc (nh V2 _) 0 _ rfl).1, (rc (nh V2 _) 1 _ rfl).1⟩
      · exact ⟨(rc (nh V2 _) 2 _ rfl).1, (rc (nh V2 _) 3 _ rfl).1⟩
    refine Calls.mono (unfit_any (H.nw (hN2.trans hNa)) V2.heap.size 0 [(d, s), (t, s2)] hR (fun z hz => ?_) 2 (by simp) (by omega)) (fun e w' hh => ⟨hh.1, hNa.trans hh.2⟩)
    simp only [List.mem_cons, List.mem_nil_iff, or_false] at hz
    rcases hz with rfl | rfl
    · exact ⟨hd64, hs⟩
    · exact ⟨ht64, hs2⟩
  obtain ⟨c0, c1, c2, c3⟩ := HB.out V2 (Fr.refl _ _)
  have HV := tHid hV2
  have HH := tHid H
  have HXX := tHid hX
  have HFF := tHid hF
  have HPE := tHid hP
  have HTT := tHid hT
  have HN2 := tHid hN2
  have HSS := tHid (And.intro hs hs2)
  have H64 := tHid (And.intro hd64 ht64)
  clear H hX hF hP hT hN2 hs1 hV2 hs hs2 hd64 ht64
  by_cases hu : unfQ (qOf X.l) [(d, s), (t, s2)] = 0
  rotate_left
  · have HL : Hid (∀ W, Nw V2 W → P (.returned (.int .i64 (unfQ (qOf X.l) [(d, s), (t, s2)]))) W) := fun W hW => by
      rw [HPE.out]
      have e : renE X.l d s t s2 = unfQ (qOf X.l) [(d, s), (t, s2)] := by unfold renE; rw [if_pos hu]
      exact .inl ⟨by rw [e]; exact hu, by rw [e], HN2.out.trans hW⟩
    have hub : (unfQ (qOf X.l) [(d, s), (t, s2)] != 0) = true := by simp [hu]
    generalize unfQ (qOf X.l) [(d, s), (t, s2)] = U at *
    clear HH HXX HFF HPE HTT HSS H64 hu HB
    go_enter Tryz.func64, Tryz.ntmps64
    go_upto_region 2 with fail
    rw [HV.out]
    clear HV
    go_wp2_with (first | (go_at_call 98; with_reducible refine HU.out.mono ?_; rintro e w3 ⟨rfl, H3⟩))
    exact HL.out _ H3.out
  obtain ⟨⟨pd, hpd, hkd⟩, ⟨pt, hpt, hkt⟩, hn1, hn2⟩ := unfQ_two hu
  obtain ⟨xd, hgd, hdm, hdn, rfl⟩ := qOf_some hpd
  obtain ⟨xt, hgt, htm, htn, rfl⟩ := qOf_some hpt
  have ed : entX X.l d s = (entL xd.ents s).getD 0 := by unfold entX; rw [hgd]; rfl
  have et : entX X.l t s2 = (entL xt.ents s2).getD 0 := by unfold entX; rw [hgt]; rfl
  have HA1 : Hid (∀ V, Hid (Nw V2 V) → Calls Tryz.prog 99 #[.pointer (some ⟨fb, 0, none⟩), .agg #[.int .i64 d, .string (mk s)]] V fun e w' => e = .returned (.int .i64 (entX X.l d s)) ∧ Hid (Nw V2 w')) := fun V hV => Calls.mono (at_any (HH.out.nw (HN2.out.trans hV.out)) d H64.out.1 s HSS.out.1 hpd hkd) (fun e w' hh => ⟨by rw [ed]; exact hh.1, hV.out.trans hh.2⟩)
  have HA2 : Hid (∀ V, Hid (Nw V2 V) → Calls Tryz.prog 99 #[.pointer (some ⟨fb, 0, none⟩), .agg #[.int .i64 t, .string (mk s2)]] V fun e w' => e = .returned (.int .i64 (entX X.l t s2)) ∧ Hid (Nw V2 w')) := fun V hV => Calls.mono (at_any (HH.out.nw (HN2.out.trans hV.out)) t H64.out.2 s2 HSS.out.2 hpt hkt) (fun e w' hh => ⟨by rw [et]; exact hh.1, hV.out.trans hh.2⟩)
  have hbnd : ∀ (z : Nd) (d : Int) (s : Tx), get X.l d = some z → I64 ((entL z.ents s).getD 0) ∧ ((entL z.ents s).getD 0 ≠ 0 → ∃ p, qOf X.l ((entL z.ents s).getD 0) = some p) := fun z d s hz => by
    cases hc : entL z.ents s with
    | none => exact ⟨⟨by simp, by simp⟩, fun h => absurd rfl h⟩
    | some n =>
      obtain ⟨xn, hg, _, h1, h2, _⟩ := wf_entOk HXX.out hz hc
      have := HXX.out.x2
      exact ⟨⟨by show -9223372036854775808 ≤ n; omega, by show n < 9223372036854775808; omega⟩, fun _ => ⟨_, qOf_get hg⟩⟩
  obtain ⟨hx64, _⟩ := hbnd xd d s hgd
  obtain ⟨hy64, hyq⟩ := hbnd xt t s2 hgt
  rw [← ed] at hx64
  rw [← et] at hy64 hyq
  obtain ⟨rk, hrk, hrs⟩ := wf_rkd HXX.out
  have hstk : stkE (qOf X.l) (rk t) (entX X.l d s) (entX X.l t s2) t = stkP X.l (entX X.l d s) (entX X.l t s2) t := by
    have hi := hrs (entX X.l d s) t xt htm htn hkt (rk t) (Nat.le_refl _)
    unfold stkE stkP
    by_cases a1 : entX X.l t s2 ≠ 0 ∧ (isDirQ (qOf X.l) (entX X.l d s) != isDirQ (qOf X.l) (entX X.l t s2)) = true
    · rw [if_pos a1, if_pos a1]
    · rw [if_neg a1, if_neg a1]
      by_cases a2 : isDirQ (qOf X.l) (entX X.l d s) = true ∧ Sub X.l (entX X.l d s) t
      · rw [if_pos ⟨a2.1, hi.2 a2.2⟩, if_pos a2]
      · rw [if_neg (fun h => a2 ⟨h.1, hi.1 h.2⟩), if_neg a2]
  have HST : Hid (∀ V, Hid (Nw V2 V) → Calls Tryz.prog 102 #[.pointer (some ⟨fb, 0, none⟩), .int .i64 (entX X.l d s), .int .i64 (entX X.l t s2), .int .i64 t] V fun e w' => e = .returned (.int .i64 (stkP X.l (entX X.l d s) (entX X.l t s2) t)) ∧ Hid (Nw V2 w')) := fun V hV => Calls.mono (stuck_any (HH.out.nw (HN2.out.trans hV.out)) hrk _ _ t hx64 hy64 H64.out.2 hpt hkt hyq) (fun e w' hh => ⟨by rw [hh.1, hstk], by rw [← hh.2]; exact hV⟩)
  have HDX : Hid (entX X.l d s = entX X.l t s2 → entX X.l d s ≠ 0 → ∀ V, Hid (Nw V2 V) → Calls Tryz.prog 97 #[.pointer (some ⟨fb, 0, none⟩), .agg #[.int .i64 9, .int .i64 d, .string (mk s), .int .i64 (entX X.l d s), .int .i64 t, .string (mk s2), .int .i64 0, .int .i64 0]] V fun e w' => (∃ r, e = .returned r) ∧ Hid (P (.returned (.int .i64 0)) w')) := fun hxy h0 V hV => by
    refine Calls.mono (did_any (HH.out.nw (HN2.out.trans hV.out)) HTT.out ⟨9, d, s, entX X.l d s, t, s2, 0, 0⟩) ?_
    rintro e w' ⟨hr, ot', g1, g2, g3⟩
    refine ⟨hr, ?_⟩
    show P _ _
    rw [HPE.out]
    have hE : renE X.l d s t s2 = 0 := by unfold renE; rw [if_neg (fun h => h hu), if_neg h0, if_pos hxy]
    have hR : renR X.l d s t s2 = X.l := by unfold renR; rw [if_pos hxy]
    refine .inr ⟨hE, rfl, ?_⟩
    rw [hR]
    exact MutO.of (fun k p hp => ⟨p, hp, rfl⟩) (HN2.out.trans hV.out) (fun k h => h.elim) g1 g2 g3
  have HMV : Hid (entX X.l d s ≠ entX X.l t s2 → entX X.l d s ≠ 0 → stkP X.l (entX X.l d s) (entX X.l t s2) t = 0 → ∀ V, Hid (Nw V2 V) → Calls Tryz.prog 103 #[.pointer (some ⟨fb, 0, none⟩), .agg #[.int .i64 d, .string (mk s)], .agg #[.int .i64 t, .string (mk s2)]] V fun e w' => (∃ r, e = .returned r) ∧ Hid (Calls Tryz.prog 97 #[.pointer (some ⟨fb, 0, none⟩), .agg #[.int .i64 9, .int .i64 d, .string (mk s), .int .i64 (entX X.l d s), .int .i64 t, .string (mk s2), .int .i64 0, .int .i64 0]] w' fun e w'' => (∃ r, e = .returned r) ∧ Hid (P (.returned (.int .i64 0)) w''))) := fun hxy h0 hst V hV => by
    obtain ⟨xd2, xt2, xx2, r⟩ := renF_of HXX.out hu h0 hxy hst
    refine Calls.mono (renmove HXX.out HFF.out r HSS.out.1 HSS.out.2 (HH.out.nw (HN2.out.trans hV.out))) ?_
    rintro e w7 ⟨hr, g1, g2, g3⟩
    refine ⟨hr, ?_⟩
    refine Calls.mono (did_any g1 HTT.out ⟨9, d, s, entX X.l d s, t, s2, 0, 0⟩) ?_
    rintro e w8 ⟨hr8, ot', k1, k2, k3⟩
    refine ⟨hr8, ?_⟩
    show P _ _
    rw [HPE.out]
    have hE : renE X.l d s t s2 = 0 := by unfold renE; rw [if_neg (fun h => h hu), if_neg h0, if_neg hxy]; exact hst
    have hR : renR X.l d s t s2 = renL (wayL X.l t s2 (entX X.l t s2)) d s t s2 (entX X.l d s) := by unfold renR; rw [if_neg hxy]
    refine .inr ⟨hE, rfl, ?_⟩
    rw [hR]
    exact MutO.of g3 ((HN2.out.trans hV.out).any.trans g2) (fun k h => .inl h) k1 k2 k3
  have HER : Hid (∀ W z, Nw V2 W → z ≠ 0 → renE X.l d s t s2 = z → P (.returned (.int .i64 z)) W) := fun W z hW hz he => by
    rw [HPE.out]
    exact .inl ⟨by rw [he]; exact hz, by rw [he], HN2.out.trans hW⟩
  have HRE : Hid (renE X.l d s t s2 = if entX X.l d s = 0 then 103 else if entX X.l d s = entX X.l t s2 then 0 else stkP X.l (entX X.l d s) (entX X.l t s2) t) := by
    show renE X.l d s t s2 = _
    unfold renE
    rw [if_neg (fun h => h hu)]
  rw [hu] at HU
  clear HH HXX HFF HPE HTT HSS H64 hu hpd hkd hpt hkt hn1 hn2 hgd hdm hdn hgt htm htn ed et hbnd hx64 hy64 hyq hrk hrs hstk
  generalize stkP X.l (entX X.l d s) (entX X.l t s2) t = ST at *
  generalize renE X.l d s t s2 = RE at *
  generalize entX X.l d s = x at *
  generalize entX X.l t s2 = y at *
  generalize mk s = ss at *
  generalize mk s2 = ss2 at *
  go_enter Tryz.func64, Tryz.ntmps64
  go_upto_region 2 with fail
  rw [HV.out]
  clear HV
  go_upto_region 5 with (first | (go_at_call 98; with_reducible refine HU.out.mono ?_; rintro e w3 ⟨rfl, H3⟩))
  clear HU c0 c1 c2 c3
  go_cut [14, 15] (fun a b wx => a = .int .i64 x ∧ b = .int .i64 y ∧ Hid (Nw V2 wx))
  case first =>
    have HSA := tHid (HB.out w3 H3.out)
    have HSD := tHid (HB.out w3.drew H3.out.drew)
    have HD3 : Hid (Nw V2 w3.drew) := H3.out.drew
    clear HST HDX HMV HER HRE
    go_region_held3 (fun U => U.cell? ⟨w.heap.size, 0, none⟩ = some (.int .i64 d) ∧ U.cell? ⟨w.heap.size, 1, none⟩ = some (.string ss) ∧ U.cell? ⟨w.heap.size + 1, 0, none⟩ = some (.int .i64 t) ∧ U.cell? ⟨w.heap.size + 1, 1, none⟩ = some (.string ss2))
      (first | exact HSA.out | exact HSD.out | exact HB.out _ H6.out | exact HB.out _ H5.out)
      (first | (go_at_call 99; with_reducible refine (HA1.out _ HD3).mono ?_; rintro e w5 ⟨rfl, H5⟩) | (go_at_call 99; with_reducible refine (HA2.out _ H5).mono ?_; rintro e w6 ⟨rfl, H6⟩))
    all_goals go_wp2_with fail
    all_goals go_meet
    all_goals exact ⟨rfl, rfl, H6⟩
  case rest =>
  obtain ⟨rfl, rfl, H6⟩ := hcut
  obtain ⟨c0, c1, c2, c3⟩ := HB.out wc H6.out
  by_cases hx0 : x = 0
  · have HL := tHid (HER.out wc 103 H6.out (by decide) (by rw [HRE.out, if_pos hx0]))
    have hxb : (x == 0) = true := by simp [hx0]
    clear HER HRE HST HDX HMV HA1 HA2 hx0
    go_wp2_with fail
    exact HL.out
  · have hxb : (x == 0) = false := by simp [hx0]
    have hre := HRE.out
    rw [if_neg hx0] at hre
    by_cases hxy : x = y
    · have CD := tHid (HDX.out hxy hx0 wc H6)
      have hxyb : (x != y) = false := by simp [hxy]
      clear HER HRE HST HDX HMV HA1 HA2 hre hx0 hxy HB
      go_wp2_with (first | (go_at_call 97; with_reducible refine CD.out.mono ?_; rintro e w8 ⟨⟨r8, rfl⟩, H8⟩))
      exact H8.out
    · rw [if_neg hxy] at hre
      have hxyb : (x != y) = true := by simp [hxy]
      have CS := tHid (HST.out wc H6)
      by_cases hst : ST = 0
      · subst hst
        have HM7 := tHid (HMV.out hxy hx0 rfl)
        clear HER HRE HST HDX HMV HA1 HA2 hre hx0 hxy
        go_upto_region 12 with (first | (go_at_call 102; with_reducible refine CS.out.mono ?_; rintro e w7 ⟨rfl, H7⟩))
        obtain ⟨d0, d1, d2, d3⟩ := HB.out w7 H7.out
        have CM := tHid (HM7.out w7 H7)
        clear c0 c1 c2 c3 HM7 CS HB
        go_wp2_with (first | (go_at_call 103; with_reducible refine CM.out.mono ?_; rintro e w8 ⟨⟨r8, rfl⟩, H8⟩) | (go_at_call 97; with_reducible refine H8.out.mono ?_; rintro e w9 ⟨⟨r9, rfl⟩, H9⟩))
        exact H9.out
      · have HL : Hid (∀ W, Hid (Nw V2 W) → P (.returned (.int .i64 ST)) W) := fun W hW => HER.out W ST hW.out hst hre
        have hsb : (ST != 0) = true := by simp [hst]
        clear HER HRE HST HDX HMV HA1 HA2 hre hx0 hxy hst HB
        go_wp2_with (first | (go_at_call 102; with_reducible refine CS.out.mono ?_; rintro e w7 ⟨rfl, H7⟩))
        exact HL.out _ H7
end Go.Proofs.YtcogkhcfpgelhaaGreat
