import Derived.Test.YtpnacppmdlnjlabLzN
namespace Go.Proofs.Ytpnacppmdlnjlab
open Go.RowKit
set_option linter.unusedVariables false
theorem and15 (t : Nat) (h : t < 256) : bits .and .u8 (t : Int) 15 = ((t % 16 : Nat) : Int) := by
  have := u8_and_nat t 15 h (by decide)
  rw [show ((15 : Nat) : Int) = 15 from rfl] at this
  rw [this]
  congr 1
  exact Nat.and_two_pow_sub_one_eq_mod t 4
set_option maxHeartbeats 16000000 in
set_option maxRecDepth 100000 in
theorem scan_any {σ : Type} {T : Tk σ} {D : Nat} {ty : TypeId} {v : Value} {fR fP fC fM fE : Nat} {TI : σ → (Nat → Prop) → World → Prop} (HT : Tkr T D ty v fR fP fC fM fE TI) (a : Option Addr) (c : Nat) (b : List By) (s0 : σ) (w : World) (hD : D ≤ w.heap.size) (hb : b ≠ [] → ∃ g o, a = some ⟨g, o, none⟩ ∧ g < D ∧ Rd g o b w) (hc : b.length ≤ c) (hc2 : c < 9223372036854775808) (hs : b.length ≤ 140737488351232) (hT : TI s0 (fun k => k < D) w) :
    Calls Try.prog 9 #[.slice a b.length c, .iface ty v] w (Scand TI D (scanS T b.length b s0) w) := by
  obtain ⟨P, hP⟩ : ∃ P, P = Scand TI D (scanS T b.length b s0) w := ⟨_, rfl⟩
  rw [← hP]
  have HP : Hid (P = Scand TI D (scanS T b.length b s0) w) := hP
  clear hP
  have HRO : Hid (Calls Try.prog 11 #[.slice a b.length c] w fun e w' => ∃ B1 B2 B3, e = .returned (.agg #[.int .i64 b.length, .func (.func 21) #[] #[.pointer (some ⟨B2, 0, none⟩)], .func (.func 19) #[] #[.pointer (some ⟨B1, 0, none⟩), .pointer (some ⟨B2, 0, none⟩)], .func (.func 20) #[] #[.pointer (some ⟨B3, 0, none⟩)]]) ∧
      Hid (SJ TI D B1 B2 B3 w'.heap.size a c b w 0 s0 (w'.alloc (.cells (rdsV B1 B2 B3 b.length).toArray 44)))) := by
    refine (readsOf_any D a c b w hD hb hc hc2 hs).mono ?_
    rintro e w' ⟨B1, B2, B3, rfl, hN, hR, h1, h2, h3⟩
    have hN2 : Nw w' (w'.alloc (.cells (rdsV B1 B2 B3 b.length).toArray 44)) := (Fr.refl _ _).alloc _
    have hl1 : B1 < w'.heap.size := World.block_lt_of_cell? _ _ hR.c1
    have hl2 := hR.lt2
    have hl3 : B3 < w'.heap.size := World.block_lt_of_cell? _ _ hR.c3
    have hsz : (w'.alloc (.cells (rdsV B1 B2 B3 b.length).toArray 44)).heap.size = w'.heap.size + 1 := by simp
    refine ⟨B1, B2, B3, rfl, hR.nw hN2, HT.grow hT (hN.trans hN2) (fun k hk => ?_), ⟨fun k hk => .inl hk, .inr (.inl rfl), .inr (.inr (.inl rfl)), .inr (.inr (.inr (.inl rfl))), fun k hk => ?_⟩, Bx.new _ _ _ _ _, (hN.trans hN2).any, by omega⟩
    · rcases hk with hk | hk | hk | hk | hk
      · exact .inl hk
      all_goals exact .inr (by have := hN.size; omega)
    · have := hN.size
      rcases hk with hk | hk | hk | hk | hk <;> omega
  clear hb hT
  go_enter Try.func9, Try.ntmps9
  go_wp2_with (first | (go_at_call 11; with_reducible refine (HRO.out).mono ?_; rintro e w' ⟨B1, B2, B3, rfl, HI0⟩))
  generalize w'.heap.size = Bs at *
  clear HRO
  go_loopg [7] (b.length + 1) (fun kx x wr => True ∧ ∃ (i : Nat) (s : σ), b.length + 1 - i ≤ kx ∧ Hid (SJ TI D B1 B2 B3 Bs a c b w i s wr ∧ scanS T b.length b s0 = scanS T b.length (b.drop i) s))
  case atStart => exact ⟨trivial, 0, s0, by omega, HI0.out, rfl⟩
  case round =>
    obtain ⟨_, i, s, hkx, HI⟩ := hrel
    clear HI0
    obtain ⟨hJ, hsc⟩ := HI.out
    have hle := hJ.rd.le
    obtain ⟨x0, x1, x2, x3⟩ := hJ.bx
    have HPL : Hid (Calls Try.prog 21 #[.pointer (some ⟨B2, 0, none⟩)] wr fun e w' => e = .returned (.int .i64 i) ∧ w' = wr) := place_any hJ.rd
    by_cases hlt : i < b.length
    · have hbne : b ≠ [] := by intro h; rw [h] at hlt; simp at hlt
      have hx := b[i].isLt
      have hdr : b.drop i = b[i] :: b.drop (i + 1) := List.drop_eq_getElem_cons hlt
      have hdl : (b.drop (i + 1)).length + 1 = b.length - i := by simp; omega
      have hsc' := hsc
      rw [hdr, scanS_cons] at hsc'
      cases hp : plainS T b.length (b[i].toNat / 16) (b.drop (i + 1)) s with
      | bad x y =>
        simp only [hp] at hsc'
        have HTK := hJ.token HT hlt (fun w1 g q => ∀ V, Nw w1 V → ∀ z : Int, z = ((b[i].toNat / 16 : Nat) : Int) → Calls Try.prog 12 #[.agg #[.int .i64 b.length, .func (.func 21) #[] #[.pointer (some ⟨B2, 0, none⟩)], .func (.func 19) #[] #[.pointer (some ⟨B1, 0, none⟩), .pointer (some ⟨B2, 0, none⟩)], .func (.func 20) #[] #[.pointer (some ⟨B3, 0, none⟩)]], .iface ty v, .int .u8 z] V fun e w2 => e = .returned (.tuple #[.int .i64 x, .int .i64 y]) ∧ Bx Bs B1 B2 B3 b.length w2 ∧ w2.cell? ⟨g, q, none⟩ = some (.int .u8 b[i].toNat) ∧ (¬ (y : Int) = 0) ∧ Hid (P (.returned (.tuple #[.int .i64 x, .int .i64 y])) w2)) (fun w1 g q h1 hg hcell V hV z hz => by
          refine ((h1.nw HT hV).plain HT hbne (b[i].toNat / 16) (by omega) z hz).mono ?_
          rintro e w2 ⟨hF, hB, hm⟩
          rw [hp] at hm
          obtain ⟨rfl, hy⟩ := hm
          refine ⟨rfl, hB, hF.cellv (hV.cell hcell) (by show ¬ D ≤ g; omega), by omega, ?_⟩
          show P _ _
          rw [HP.out]
          refine ⟨(h1.nw HT hV).fr.trans hF, ?_⟩
          rw [hsc']
          exact ⟨rfl, hy⟩)
        clear hsc hsc' HI hJ HP hp hdr hdl
        generalize b[i].toNat = tok at *
        go_wp2_with (first
          | (go_at_call 21; with_reducible refine (HPL.out).mono ?_; rintro e w0 ⟨rfl, rfl⟩)
          | (go_at_call 19; with_reducible refine (HTK.out).mono ?_; rintro e w1 ⟨g, q, d, rfl, hcell, ⟨y0, y1, y2, y3⟩, HSP⟩))
        go_region_held3 (fun w' => w'.cell? ⟨Bs, 0, none⟩ = some (.int .i64 b.length) ∧ w'.cell? ⟨Bs, 1, none⟩ = some (.func (.func 21) #[] #[.pointer (some ⟨B2, 0, none⟩)]) ∧ w'.cell? ⟨Bs, 2, none⟩ = some (.func (.func 19) #[] #[.pointer (some ⟨B1, 0, none⟩), .pointer (some ⟨B2, 0, none⟩)]) ∧ w'.cell? ⟨Bs, 3, none⟩ = some (.func (.func 20) #[] #[.pointer (some ⟨B3, 0, none⟩)]) ∧ w'.cell? ⟨g, q, none⟩ = some (.int .u8 tok)) (first | exact ⟨y0, y1, y2, y3, hcell⟩ | exact ⟨z0, z1, z2, z3, hcell2⟩)
          (first | (go_at_call 12; with_reducible refine (HSP.out _ (Fr.refl _ _).drew _ (by first | rfl | omega)).mono ?_; rintro e w2 ⟨rfl, ⟨z0, z1, z2, z3⟩, hcell2, hy, HF⟩))
        all_goals go_wp2
        all_goals exact HF.out
      | ok r3 s1 =>
       simp only [hp] at hsc'
       by_cases hr3 : r3 = []
       · rw [if_pos hr3] at hsc'
         by_cases hlow : b[i].toNat % 16 = 0
         · rw [if_pos hlow] at hsc'
           have HTK := hJ.token HT hlt (fun w1 g q => ∀ V, Nw w1 V → ∀ z : Int, z = ((b[i].toNat / 16 : Nat) : Int) → Calls Try.prog 12 #[.agg #[.int .i64 b.length, .func (.func 21) #[] #[.pointer (some ⟨B2, 0, none⟩)], .func (.func 19) #[] #[.pointer (some ⟨B1, 0, none⟩), .pointer (some ⟨B2, 0, none⟩)], .func (.func 20) #[] #[.pointer (some ⟨B3, 0, none⟩)]], .iface ty v, .int .u8 z] V fun e w2 => e = .returned (.tuple #[.int .i64 0, .int .i64 0]) ∧ Bx Bs B1 B2 B3 b.length w2 ∧ w2.cell? ⟨g, q, none⟩ = some (.int .u8 b[i].toNat) ∧ ∃ j : Nat, (j : Int) = (b.length : Int) ∧ Hid (∀ V, Nw w2 V → Calls Try.prog 21 #[.pointer (some ⟨B2, 0, none⟩)] V fun e w3 => e = .returned (.int .i64 j) ∧ w3 = V) ∧ Hid (∀ V, Nw w2 V → Calls Try.prog fE #[v] V fun e w3 => (∃ r, e = .returned r) ∧ Hid (P (.returned (.tuple #[.int .i64 0, .int .i64 0])) w3))) (fun w1 g q h1 hg hcell V hV z hz => by
             refine ((h1.nw HT hV).plain HT hbne (b[i].toNat / 16) (by omega) z hz).mono ?_
             rintro e w2 ⟨hF, hB, hm⟩
             rw [hp] at hm
             obtain ⟨rfl, j, hj, h2⟩ := hm
             have hjl := h2.rd.le
             have hrl : r3.length = b.length - j := by rw [hj]; simp
             refine ⟨rfl, hB, hF.cellv (hV.cell hcell) (by show ¬ D ≤ g; omega), j, ?_, fun V hV => place_any (h2.rd.nw hV), ?_⟩
             · rw [hr3] at hrl; simp at hrl; omega
             · intro V hV
               have h3 := h2.nw HT hV
               refine (HT.fin h3.ti h3.kk.d h3.kk.lt).mono ?_
               rintro e w3 ⟨hr, hT3, hF3⟩
               refine ⟨hr, ?_⟩
               show P _ _
               rw [HP.out]
               refine ⟨h3.fr.trans (hF3.mono (fun k hk => .inl ?_)), ?_⟩
               · by_cases hd : D ≤ k
                 · exact hd
                 · exact absurd (.inl (by omega)) hk
               · rw [hsc']
                 exact ⟨rfl, HT.grow hT3 (Fr.refl _ _) (fun k hk => .inl (.inl hk))⟩)
           have hmE := HT.mE
           have heE := HT.eE
           have hand : bits .and .u8 ((b[i].toNat : Nat) : Int) 15 = ((b[i].toNat % 16 : Nat) : Int) := and15 _ hx
           clear hsc hsc' HI hJ HP hp hdr hdl
           rw [hlow] at hand
           clear hlow
           generalize b[i].toNat = tok at *
           go_wp2_with (first
             | (go_at_call 21; with_reducible refine (HPL.out).mono ?_; rintro e w0 ⟨rfl, rfl⟩)
             | (go_at_call 19; with_reducible refine (HTK.out).mono ?_; rintro e w1 ⟨g, q, d, rfl, hcell, ⟨y0, y1, y2, y3⟩, HSP⟩))
           go_region_held3 (fun w' => w'.cell? ⟨Bs, 0, none⟩ = some (.int .i64 b.length) ∧ w'.cell? ⟨Bs, 1, none⟩ = some (.func (.func 21) #[] #[.pointer (some ⟨B2, 0, none⟩)]) ∧ w'.cell? ⟨Bs, 2, none⟩ = some (.func (.func 19) #[] #[.pointer (some ⟨B1, 0, none⟩), .pointer (some ⟨B2, 0, none⟩)]) ∧ w'.cell? ⟨Bs, 3, none⟩ = some (.func (.func 20) #[] #[.pointer (some ⟨B3, 0, none⟩)]) ∧ w'.cell? ⟨g, q, none⟩ = some (.int .u8 tok)) (first | exact ⟨y0, y1, y2, y3, hcell⟩ | exact ⟨z0, z1, z2, z3, hcell2⟩)
             (first | (go_at_call 12; with_reducible refine (HSP.out _ (Fr.refl _ _).drew _ (by first | rfl | omega)).mono ?_; rintro e w2 ⟨rfl, ⟨z0, z1, z2, z3⟩, hcell2, j, hjj, HPL2, HQ⟩))
           clear HTK HPL HSP x0 x1 x2 x3 y0 y1 y2 y3 hcell
           go_wp2_with fail
           go_region_held3 (fun w' => w'.cell? ⟨Bs, 0, none⟩ = some (.int .i64 b.length) ∧ w'.cell? ⟨Bs, 1, none⟩ = some (.func (.func 21) #[] #[.pointer (some ⟨B2, 0, none⟩)]) ∧ w'.cell? ⟨Bs, 2, none⟩ = some (.func (.func 19) #[] #[.pointer (some ⟨B1, 0, none⟩), .pointer (some ⟨B2, 0, none⟩)]) ∧ w'.cell? ⟨Bs, 3, none⟩ = some (.func (.func 20) #[] #[.pointer (some ⟨B3, 0, none⟩)]) ∧ w'.cell? ⟨g, q, none⟩ = some (.int .u8 tok)) (first | exact ⟨z0, z1, z2, z3, hcell2⟩)
             (first | (go_at_call 21; with_reducible refine (HPL2.out _ (Fr.refl _ _).drew).mono ?_; rintro e w3 ⟨rfl, rfl⟩))
           go_wp2_with (first
             | (go_at_fn fE; with_reducible refine (HQ.out _ (by first | exact (Fr.refl _ _).drew | exact (Fr.refl _ _).drewN _ | exact Fr.refl _ _)).mono ?_; rintro e w4 ⟨⟨r4, rfl⟩, HF⟩))
           exact HF.out
         · rw [if_neg hlow] at hsc'
           have HTK := hJ.token HT hlt (fun w1 g q => ∀ V, Nw w1 V → ∀ z : Int, z = ((b[i].toNat / 16 : Nat) : Int) → Calls Try.prog 12 #[.agg #[.int .i64 b.length, .func (.func 21) #[] #[.pointer (some ⟨B2, 0, none⟩)], .func (.func 19) #[] #[.pointer (some ⟨B1, 0, none⟩), .pointer (some ⟨B2, 0, none⟩)], .func (.func 20) #[] #[.pointer (some ⟨B3, 0, none⟩)]], .iface ty v, .int .u8 z] V fun e w2 => e = .returned (.tuple #[.int .i64 0, .int .i64 0]) ∧ Bx Bs B1 B2 B3 b.length w2 ∧ w2.cell? ⟨g, q, none⟩ = some (.int .u8 b[i].toNat) ∧ ∃ j : Nat, (j : Int) = (b.length : Int) ∧ Hid (∀ V, Nw w2 V → Calls Try.prog 21 #[.pointer (some ⟨B2, 0, none⟩)] V fun e w3 => e = .returned (.int .i64 j) ∧ w3 = V) ∧ Hid (∀ V, Nw w2 V → P (.returned (.tuple #[.int .i64 i, .int .i64 31])) V)) (fun w1 g q h1 hg hcell V hV z hz => by
             refine ((h1.nw HT hV).plain HT hbne (b[i].toNat / 16) (by omega) z hz).mono ?_
             rintro e w2 ⟨hF, hB, hm⟩
             rw [hp] at hm
             obtain ⟨rfl, j, hj, h2⟩ := hm
             have hjl := h2.rd.le
             have hrl : r3.length = b.length - j := by rw [hj]; simp
             refine ⟨rfl, hB, hF.cellv (hV.cell hcell) (by show ¬ D ≤ g; omega), j, ?_, fun V hV => place_any (h2.rd.nw hV), ?_⟩
             · rw [hr3] at hrl; simp at hrl; omega
             · intro V hV
               have h3 := h2.nw HT hV
               rw [HP.out]
               refine ⟨h3.fr, ?_⟩
               rw [hsc', hdl, show b.length - (b.length - i) = i by omega]
               exact ⟨rfl, by decide⟩)
           have hlow' : ¬ ((b[i].toNat % 16 : Nat) : Int) = 0 := by omega
           clear hlow
           have hand : bits .and .u8 ((b[i].toNat : Nat) : Int) 15 = ((b[i].toNat % 16 : Nat) : Int) := and15 _ hx
           clear hsc hsc' HI hJ HP hp hdr hdl
           generalize hlo : b[i].toNat % 16 = lo at *
           generalize b[i].toNat = tok at *
           clear hlo
           go_wp2_with (first
             | (go_at_call 21; with_reducible refine (HPL.out).mono ?_; rintro e w0 ⟨rfl, rfl⟩)
             | (go_at_call 19; with_reducible refine (HTK.out).mono ?_; rintro e w1 ⟨g, q, d, rfl, hcell, ⟨y0, y1, y2, y3⟩, HSP⟩))
           go_region_held3 (fun w' => w'.cell? ⟨Bs, 0, none⟩ = some (.int .i64 b.length) ∧ w'.cell? ⟨Bs, 1, none⟩ = some (.func (.func 21) #[] #[.pointer (some ⟨B2, 0, none⟩)]) ∧ w'.cell? ⟨Bs, 2, none⟩ = some (.func (.func 19) #[] #[.pointer (some ⟨B1, 0, none⟩), .pointer (some ⟨B2, 0, none⟩)]) ∧ w'.cell? ⟨Bs, 3, none⟩ = some (.func (.func 20) #[] #[.pointer (some ⟨B3, 0, none⟩)]) ∧ w'.cell? ⟨g, q, none⟩ = some (.int .u8 tok)) (first | exact ⟨y0, y1, y2, y3, hcell⟩ | exact ⟨z0, z1, z2, z3, hcell2⟩)
             (first | (go_at_call 12; with_reducible refine (HSP.out _ (Fr.refl _ _).drew _ (by first | rfl | omega)).mono ?_; rintro e w2 ⟨rfl, ⟨z0, z1, z2, z3⟩, hcell2, j, hjj, HPL2, HQ⟩))
           clear HTK HPL HSP x0 x1 x2 x3 y0 y1 y2 y3 hcell
           go_wp2_with fail
           go_region_held3 (fun w' => w'.cell? ⟨Bs, 0, none⟩ = some (.int .i64 b.length) ∧ w'.cell? ⟨Bs, 1, none⟩ = some (.func (.func 21) #[] #[.pointer (some ⟨B2, 0, none⟩)]) ∧ w'.cell? ⟨Bs, 2, none⟩ = some (.func (.func 19) #[] #[.pointer (some ⟨B1, 0, none⟩), .pointer (some ⟨B2, 0, none⟩)]) ∧ w'.cell? ⟨Bs, 3, none⟩ = some (.func (.func 20) #[] #[.pointer (some ⟨B3, 0, none⟩)]) ∧ w'.cell? ⟨g, q, none⟩ = some (.int .u8 tok)) (first | exact ⟨z0, z1, z2, z3, hcell2⟩)
             (first | (go_at_call 21; with_reducible refine (HPL2.out _ (Fr.refl _ _).drew).mono ?_; rintro e w3 ⟨rfl, rfl⟩))
           go_wp2_with fail
           exact HQ.out _ (by first | exact (Fr.refl _ _).drew | exact (Fr.refl _ _).drewN _ | exact Fr.refl _ _)
       · rw [if_neg hr3] at hsc'
         cases hm : matchS T b.length (b[i].toNat % 16) r3 s1 with
         | bad x y =>
           simp only [hm] at hsc'
           have HTK := hJ.token HT hlt (fun w1 g q => ∀ V, Nw w1 V → ∀ z : Int, z = ((b[i].toNat / 16 : Nat) : Int) → Calls Try.prog 12 #[.agg #[.int .i64 b.length, .func (.func 21) #[] #[.pointer (some ⟨B2, 0, none⟩)], .func (.func 19) #[] #[.pointer (some ⟨B1, 0, none⟩), .pointer (some ⟨B2, 0, none⟩)], .func (.func 20) #[] #[.pointer (some ⟨B3, 0, none⟩)]], .iface ty v, .int .u8 z] V fun e w2 => e = .returned (.tuple #[.int .i64 0, .int .i64 0]) ∧ Bx Bs B1 B2 B3 b.length w2 ∧ w2.cell? ⟨g, q, none⟩ = some (.int .u8 b[i].toNat) ∧ ∃ j : Nat, (¬ (j : Int) = (b.length : Int)) ∧ Hid (∀ V, Nw w2 V → Calls Try.prog 21 #[.pointer (some ⟨B2, 0, none⟩)] V fun e w3 => e = .returned (.int .i64 j) ∧ w3 = V) ∧ Hid (∀ V, Nw w2 V → ∀ z : Int, z = ((b[i].toNat % 16 : Nat) : Int) → Calls Try.prog 13 #[.agg #[.int .i64 b.length, .func (.func 21) #[] #[.pointer (some ⟨B2, 0, none⟩)], .func (.func 19) #[] #[.pointer (some ⟨B1, 0, none⟩), .pointer (some ⟨B2, 0, none⟩)], .func (.func 20) #[] #[.pointer (some ⟨B3, 0, none⟩)]], .iface ty v, .int .u8 z] V fun e w3 => e = .returned (.tuple #[.int .i64 x, .int .i64 y]) ∧ (¬ (y : Int) = 0) ∧ Hid (P (.returned (.tuple #[.int .i64 x, .int .i64 y])) w3))) (fun w1 g q h1 hg hcell V hV z hz => by
             refine ((h1.nw HT hV).plain HT hbne (b[i].toNat / 16) (by omega) z hz).mono ?_
             rintro e w2 ⟨hF, hB, hm⟩
             rw [hp] at hm
             obtain ⟨rfl, j, hj, h2⟩ := hm
             have hjl := h2.rd.le
             have hrl : r3.length = b.length - j := by rw [hj]; simp
             refine ⟨rfl, hB, hF.cellv (hV.cell hcell) (by show ¬ D ≤ g; omega), j, ?_, fun V hV => place_any (h2.rd.nw hV), ?_⟩
             · intro h; apply hr3; rw [← List.length_eq_zero_iff]; omega
             · intro V hV z hz
               refine ((h2.nw HT hV).mat HT hbne (b[i].toNat % 16) (by omega) z hz).mono ?_
               rintro e w3 ⟨hF3, hB3, hm3⟩
               rw [← hj, hm] at hm3
               obtain ⟨rfl, hy⟩ := hm3
               refine ⟨rfl, by omega, ?_⟩
               show P _ _
               rw [HP.out]
               refine ⟨(h2.nw HT hV).fr.trans hF3, ?_⟩
               rw [hsc']
               exact ⟨rfl, hy⟩)
           have hand : bits .and .u8 ((b[i].toNat : Nat) : Int) 15 = ((b[i].toNat % 16 : Nat) : Int) := and15 _ hx
           clear hsc hsc' HI hJ HP hp hdr hdl hm
           generalize hlo : b[i].toNat % 16 = lo at *
           generalize b[i].toNat = tok at *
           clear hlo
           go_wp2_with (first
             | (go_at_call 21; with_reducible refine (HPL.out).mono ?_; rintro e w0 ⟨rfl, rfl⟩)
             | (go_at_call 19; with_reducible refine (HTK.out).mono ?_; rintro e w1 ⟨g, q, d, rfl, hcell, ⟨y0, y1, y2, y3⟩, HSP⟩))
           go_region_held3 (fun w' => w'.cell? ⟨Bs, 0, none⟩ = some (.int .i64 b.length) ∧ w'.cell? ⟨Bs, 1, none⟩ = some (.func (.func 21) #[] #[.pointer (some ⟨B2, 0, none⟩)]) ∧ w'.cell? ⟨Bs, 2, none⟩ = some (.func (.func 19) #[] #[.pointer (some ⟨B1, 0, none⟩), .pointer (some ⟨B2, 0, none⟩)]) ∧ w'.cell? ⟨Bs, 3, none⟩ = some (.func (.func 20) #[] #[.pointer (some ⟨B3, 0, none⟩)]) ∧ w'.cell? ⟨g, q, none⟩ = some (.int .u8 tok)) (first | exact ⟨y0, y1, y2, y3, hcell⟩ | exact ⟨z0, z1, z2, z3, hcell2⟩)
             (first | (go_at_call 12; with_reducible refine (HSP.out _ (Fr.refl _ _).drew _ (by first | rfl | omega)).mono ?_; rintro e w2 ⟨rfl, ⟨z0, z1, z2, z3⟩, hcell2, j, hjj, HPL2, HQ⟩))
           clear HTK HPL HSP x0 x1 x2 x3 y0 y1 y2 y3 hcell
           go_wp2_with fail
           go_region_held3 (fun w' => w'.cell? ⟨Bs, 0, none⟩ = some (.int .i64 b.length) ∧ w'.cell? ⟨Bs, 1, none⟩ = some (.func (.func 21) #[] #[.pointer (some ⟨B2, 0, none⟩)]) ∧ w'.cell? ⟨Bs, 2, none⟩ = some (.func (.func 19) #[] #[.pointer (some ⟨B1, 0, none⟩), .pointer (some ⟨B2, 0, none⟩)]) ∧ w'.cell? ⟨Bs, 3, none⟩ = some (.func (.func 20) #[] #[.pointer (some ⟨B3, 0, none⟩)]) ∧ w'.cell? ⟨g, q, none⟩ = some (.int .u8 tok)) (first | exact ⟨z0, z1, z2, z3, hcell2⟩)
             (first | (go_at_call 21; with_reducible refine (HPL2.out _ (Fr.refl _ _).drew).mono ?_; rintro e w3 ⟨rfl, rfl⟩))
           go_wp2_with (first
             | (go_at_call 13; with_reducible refine (HQ.out _ (by first | exact (Fr.refl _ _).drew | exact (Fr.refl _ _).drewN _ | exact Fr.refl _ _) _ rfl).mono ?_; rintro e w4 ⟨rfl, hy, HF⟩))
           exact HF.out
         | ok r5 s2 =>
           simp only [hm] at hsc'
           have HTK := hJ.token HT hlt (fun w1 g q => ∀ V, Nw w1 V → ∀ z : Int, z = ((b[i].toNat / 16 : Nat) : Int) → Calls Try.prog 12 #[.agg #[.int .i64 b.length, .func (.func 21) #[] #[.pointer (some ⟨B2, 0, none⟩)], .func (.func 19) #[] #[.pointer (some ⟨B1, 0, none⟩), .pointer (some ⟨B2, 0, none⟩)], .func (.func 20) #[] #[.pointer (some ⟨B3, 0, none⟩)]], .iface ty v, .int .u8 z] V fun e w2 => e = .returned (.tuple #[.int .i64 0, .int .i64 0]) ∧ Bx Bs B1 B2 B3 b.length w2 ∧ w2.cell? ⟨g, q, none⟩ = some (.int .u8 b[i].toNat) ∧ ∃ j : Nat, (¬ (j : Int) = (b.length : Int)) ∧ Hid (∀ V, Nw w2 V → Calls Try.prog 21 #[.pointer (some ⟨B2, 0, none⟩)] V fun e w3 => e = .returned (.int .i64 j) ∧ w3 = V) ∧ Hid (∀ V, Nw w2 V → ∀ z : Int, z = ((b[i].toNat % 16 : Nat) : Int) → Calls Try.prog 13 #[.agg #[.int .i64 b.length, .func (.func 21) #[] #[.pointer (some ⟨B2, 0, none⟩)], .func (.func 19) #[] #[.pointer (some ⟨B1, 0, none⟩), .pointer (some ⟨B2, 0, none⟩)], .func (.func 20) #[] #[.pointer (some ⟨B3, 0, none⟩)]], .iface ty v, .int .u8 z] V fun e w3 => e = .returned (.tuple #[.int .i64 0, .int .i64 0]) ∧ Hid (∃ k, i < k ∧ k ≤ b.length ∧ SJ TI D B1 B2 B3 Bs a c b w k s2 w3 ∧ scanS T b.length b s0 = scanS T b.length (b.drop k) s2))) (fun w1 g q h1 hg hcell V hV z hz => by
             refine ((h1.nw HT hV).plain HT hbne (b[i].toNat / 16) (by omega) z hz).mono ?_
             rintro e w2 ⟨hF, hB, hm⟩
             rw [hp] at hm
             obtain ⟨rfl, j, hj, h2⟩ := hm
             have hjl := h2.rd.le
             have hrl : r3.length = b.length - j := by rw [hj]; simp
             refine ⟨rfl, hB, hF.cellv (hV.cell hcell) (by show ¬ D ≤ g; omega), j, ?_, fun V hV => place_any (h2.rd.nw hV), ?_⟩
             · intro h; apply hr3; rw [← List.length_eq_zero_iff]; omega
             · intro V hV z hz
               refine ((h2.nw HT hV).mat HT hbne (b[i].toNat % 16) (by omega) z hz).mono ?_
               rintro e w3 ⟨hF3, hB3, hm3⟩
               rw [← hj, hm] at hm3
               obtain ⟨rfl, k, hk, h3⟩ := hm3
               have hl1 := plainS_le hp
               have hl2 := matchS_le hm
               have hl3 : r5.length = b.length - k := by rw [hk]; simp
               have hkl := h3.rd.le
               exact ⟨rfl, k, by omega, hkl, h3, by rw [hsc', hk]⟩)
           have hand : bits .and .u8 ((b[i].toNat : Nat) : Int) 15 = ((b[i].toNat % 16 : Nat) : Int) := and15 _ hx
           clear hsc hsc' HI hJ HP hp hdr hdl hm
           generalize hlo : b[i].toNat % 16 = lo at *
           generalize b[i].toNat = tok at *
           clear hlo
           go_wp2_with (first
             | (go_at_call 21; with_reducible refine (HPL.out).mono ?_; rintro e w0 ⟨rfl, rfl⟩)
             | (go_at_call 19; with_reducible refine (HTK.out).mono ?_; rintro e w1 ⟨g, q, d, rfl, hcell, ⟨y0, y1, y2, y3⟩, HSP⟩))
           go_region_held3 (fun w' => w'.cell? ⟨Bs, 0, none⟩ = some (.int .i64 b.length) ∧ w'.cell? ⟨Bs, 1, none⟩ = some (.func (.func 21) #[] #[.pointer (some ⟨B2, 0, none⟩)]) ∧ w'.cell? ⟨Bs, 2, none⟩ = some (.func (.func 19) #[] #[.pointer (some ⟨B1, 0, none⟩), .pointer (some ⟨B2, 0, none⟩)]) ∧ w'.cell? ⟨Bs, 3, none⟩ = some (.func (.func 20) #[] #[.pointer (some ⟨B3, 0, none⟩)]) ∧ w'.cell? ⟨g, q, none⟩ = some (.int .u8 tok)) (first | exact ⟨y0, y1, y2, y3, hcell⟩ | exact ⟨z0, z1, z2, z3, hcell2⟩)
             (first | (go_at_call 12; with_reducible refine (HSP.out _ (Fr.refl _ _).drew _ (by first | rfl | omega)).mono ?_; rintro e w2 ⟨rfl, ⟨z0, z1, z2, z3⟩, hcell2, j, hjj, HPL2, HQ⟩))
           clear HTK HPL HSP x0 x1 x2 x3 y0 y1 y2 y3 hcell
           go_wp2_with fail
           go_region_held3 (fun w' => w'.cell? ⟨Bs, 0, none⟩ = some (.int .i64 b.length) ∧ w'.cell? ⟨Bs, 1, none⟩ = some (.func (.func 21) #[] #[.pointer (some ⟨B2, 0, none⟩)]) ∧ w'.cell? ⟨Bs, 2, none⟩ = some (.func (.func 19) #[] #[.pointer (some ⟨B1, 0, none⟩), .pointer (some ⟨B2, 0, none⟩)]) ∧ w'.cell? ⟨Bs, 3, none⟩ = some (.func (.func 20) #[] #[.pointer (some ⟨B3, 0, none⟩)]) ∧ w'.cell? ⟨g, q, none⟩ = some (.int .u8 tok)) (first | exact ⟨z0, z1, z2, z3, hcell2⟩)
             (first | (go_at_call 21; with_reducible refine (HPL2.out _ (Fr.refl _ _).drew).mono ?_; rintro e w3 ⟨rfl, rfl⟩))
           go_wp2_with (first
             | (go_at_call 13; with_reducible refine (HQ.out _ (by first | exact (Fr.refl _ _).drew | exact (Fr.refl _ _).drewN _ | exact Fr.refl _ _) _ rfl).mono ?_; rintro e w4 ⟨rfl, HF⟩))
           go_roundg (b.length - i)
           case measure => omega
           case rel =>
             obtain ⟨k, hk1, hk2, hk3, hk4⟩ := HF.out
             exact ⟨trivial, k, s2, by omega, hk3, hk4⟩
    · have hi : i = b.length := by omega
      have HTK : Hid (Calls Try.prog 19 #[.int .i64 1, .pointer (some ⟨B1, 0, none⟩), .pointer (some ⟨B2, 0, none⟩)] wr fun e w' => e = .returned (.tuple #[.slice none 0 0, .bool false]) ∧ w' = wr) := take_no hJ.rd 1 (by omega)
      have HF : Hid (P (.returned (.tuple #[.int .i64 b.length, .int .i64 4])) wr) := by
        show P _ _
        rw [HP.out]
        refine ⟨hJ.fr, ?_⟩
        rw [hsc, show b.drop i = [] by simp; omega, scanS]
        exact ⟨rfl, by decide⟩
      clear hsc HI hJ HP
      go_wp2_with (first
          | (go_at_call 21; with_reducible refine (HPL.out).mono ?_; rintro e w0 ⟨rfl, rfl⟩)
          | (go_at_call 19; with_reducible refine (HTK.out).mono ?_; rintro e w1 ⟨rfl, rfl⟩))
      exact HF.out
end Go.Proofs.Ytpnacppmdlnjlab
