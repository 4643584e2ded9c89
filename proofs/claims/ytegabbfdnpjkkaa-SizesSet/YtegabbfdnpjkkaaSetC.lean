import Derived.Test.YtegabbfdnpjkkaaSetB
import Derived.Test.YtegabbfdnpjkkaaRanX
import Derived.Deep.DeepCutAuto
import Derived.Deep.CutBlock
import Derived.BigQuiet
namespace Go.Proofs.Ytegabbfdnpjkkaa
open Go.RowKit
set_option linter.unusedVariables false
set_option linter.unusedSimpArgs false

/-- What is told of a slice of ranges that came in. -/
def IsRgs (w : World) (la : Option Addr) (len : Nat) (Ls : Nat → Rg) : Prop :=
  len ≤ maxLen ∧ ∀ i, i < len → (∃ b o, la = some ⟨b, o, none⟩ ∧ w.cell? ⟨b, o + i * 2, none⟩ = some (.int .i64 (Ls i).1) ∧ w.cell? ⟨b, o + i * 2 + 1, none⟩ = some (.int .i64 (Ls i).2)) ∧ (Ls i).2 ≤ 9223372036854775807
theorem IsRgs.nw {w W : World} {la : Option Addr} {len : Nat} {Ls : Nat → Rg} (h : IsRgs w la len Ls) (hN : Nw w W) (i : Nat) (hi : i < len) :
    (∃ b o, la = some ⟨b, o, none⟩ ∧ W.cell? ⟨b, o + i * 2, none⟩ = some (.int .i64 (Ls i).1) ∧ W.cell? ⟨b, o + i * 2 + 1, none⟩ = some (.int .i64 (Ls i).2)) ∧ (Ls i).2 ≤ 9223372036854775807 := by
  obtain ⟨⟨b, o, rfl, h1, h2⟩, h3⟩ := h.2 i hi
  exact ⟨⟨b, o, rfl, hN.cell h1, hN.cell h2⟩, h3⟩

set_option maxHeartbeats 40000000 in
set_option maxRecDepth 100000 in
theorem set_walk (la oa : Option Addr) (len cap olen ocap : Nat) (Ls Os : Nat → Rg) (x : Rg) (w : World) (hL : IsRgs w la len Ls) (hO : IsRgs w oa olen Os) (hx : x.2 ≤ 9223372036854775807) :
    Calls Try.prog 7 #[.slice la len cap, .slice oa olen ocap, rv x] w fun e w' => e = .returned (.bool true) ∧ Nw w w' := by
  have hl := hL.1
  have hol := hO.1
  unfold maxLen at hl hol
  obtain ⟨W, hW⟩ : ∃ W, W = w.alloc (.cells #[.int .i64 x.1, .int .i64 x.2] 49) := ⟨_, rfl⟩
  have HWN : Hid (Nw w W) := by rw [hW]; exact (Fr.refl _ _).alloc _
  have hWs : W.heap.size = w.heap.size + 1 := by rw [hW, World.size_alloc]
  have HCX : Hid (∀ V, Nw W V → V.cell? ⟨w.heap.size, 0, none⟩ = some (.int .i64 x.1) ∧ V.cell? ⟨w.heap.size, 1, none⟩ = some (.int .i64 x.2)) := fun V hV => by
    have hp : W.heap[w.heap.size]? = some (.cells #[.int .i64 x.1, .int .i64 x.2] 49) := by rw [hW]; exact Array.getElem?_push_size
    exact ⟨hV.cell (by simp only [World.cell?, hp]; rfl), hV.cell (by simp only [World.cell?, hp]; rfl)⟩
  have HLS : Hid (∀ i V, i < len → Nw W V → (∃ b o, la = some ⟨b, o, none⟩ ∧ V.cell? ⟨b, o + i * 2, none⟩ = some (.int .i64 (Ls i).1) ∧ V.cell? ⟨b, o + i * 2 + 1, none⟩ = some (.int .i64 (Ls i).2)) ∧ (Ls i).2 ≤ 9223372036854775807) := fun i V hi hV => hL.nw (HWN.out.trans hV) i hi
  have HOS : Hid (∀ i V, i < olen → Nw W V → (∃ b o, oa = some ⟨b, o, none⟩ ∧ V.cell? ⟨b, o + i * 2, none⟩ = some (.int .i64 (Os i).1) ∧ V.cell? ⟨b, o + i * 2 + 1, none⟩ = some (.int .i64 (Os i).2)) ∧ (Os i).2 ≤ 9223372036854775807) := fun i V hi hV => hO.nw (HWN.out.trans hV) i hi
  have HI0 : Hid (Inv1 W (w.heap.size + 1) (w.heap.size + 2) Os 0 (((w.alloc (.cells #[.int .i64 x.1, .int .i64 x.2] 49)).alloc (.cells #[.slice none 0 0] 47)).alloc (.cells #[.slice none 0 0] 47))) := by
    have := inv1_start (Os := Os) (two_start W)
    rw [hWs, hW] at this
    rw [hW]
    exact this
  clear hL hO hW hWs
  obtain ⟨N, hN⟩ : ∃ N, N = min olen 1000 := ⟨_, rfl⟩
  obtain ⟨M, hM⟩ : ∃ M, M = min len 1000 := ⟨_, rfl⟩
  go_enter Try.func7, Try.ntmps7
  go_upto_block 0 with fail
  go_cut [9] (fun i w' => Hid (Inv1 W (w.heap.size + 1) (w.heap.size + 2) Os N w'))
  case first =>
    go_wp2_with fail
    go_loopg [9] N (fun kx i wr => ∃ t : Nat, t ≤ N ∧ N - t ≤ kx ∧ i = .int .i64 t ∧ Hid (Inv1 W (w.heap.size + 1) (w.heap.size + 2) Os t wr))
    case atStart => exact ⟨0, Nat.zero_le _, by omega, rfl, HI0⟩
    case round =>
      obtain ⟨t, ht, hkx, rfl, HI⟩ := hrel
      by_cases hlt : t < N
      · have h1 : (t : Int) < (olen : Int) := by omega
        have h2 : (t : Int) < 1000 := by omega
        have hNw : Nw W wr := HI.out.choose_spec.1.out
        obtain ⟨⟨b, o, rfl, z1, z2⟩, hm⟩ := HOS.out t wr (by omega) hNw
        have HC : Hid (Calls Try.prog 24 #[.pointer (some ⟨w.heap.size + 2, 0, none⟩), rv (Os t)] wr fun e w' => (∃ E, e = .returned (.int .i64 E)) ∧ Inv1 W (w.heap.size + 1) (w.heap.size + 2) Os (t + 1) w') := inv1_step HI.out (by omega) hm
        generalize Os t = y at z1 z2 HC
        clear HI HI0 hm HLS HCX HOS
        go_wp2_with fail
        refine HC.out.mono ?_
        rintro e w1 ⟨⟨E, rfl⟩, hI⟩
        have HI1 : Hid (Inv1 W (w.heap.size + 1) (w.heap.size + 2) Os (t + 1) w1) := hI
        clear hI HC
        go_wp2
        go_roundg (N - (t + 1))
        case measure => omega
        case rel => exact ⟨t + 1, by omega, Nat.le_refl _, by go_num, HI1⟩
      · have hte : t = N := by omega
        have HIN : Hid (Inv1 W (w.heap.size + 1) (w.heap.size + 2) Os N wr) := by rw [← hte]; exact HI
        clear HI HI0 HLS HCX HOS
        by_cases h1 : (t : Int) < (olen : Int)
        · have h2 : ¬ (t : Int) < 1000 := by omega
          go_wp2_with fail
          go_meet
          case rel => exact HIN
        · go_wp2_with fail
          go_meet
          case rel => exact HIN
  case rest =>
    obtain ⟨wA, hwA⟩ : ∃ z, z = wc := ⟨_, rfl⟩
    subst hwA
    have HIA : Hid (Inv2 W (w.heap.size + 1) (w.heap.size + 2) Os N 0 wA) := inv2_start hcut.out (by omega)
    clear hcut HI0
    go_upto_block 2 with fail
    go_cut [10] (fun i w' => Hid (Two W (w.heap.size + 1) (w.heap.size + 2) [] [] (.slice none 0 0) [] w'))
    case first =>
      go_wp2_with fail
      go_loopg [10] N (fun kx i wr => ∃ t : Nat, t ≤ N ∧ N - t ≤ kx ∧ i = .int .i64 t ∧ Hid (Inv2 W (w.heap.size + 1) (w.heap.size + 2) Os N t wr))
      case atStart => exact ⟨0, Nat.zero_le _, by omega, rfl, HIA⟩
      case round =>
        obtain ⟨t, ht, hkx, rfl, HI⟩ := hrel
        by_cases hlt : t < N
        · have h1 : (t : Int) < (olen : Int) := by omega
          have h2 : (t : Int) < 1000 := by omega
          have hNw : Nw W wr := HI.out.choose_spec.1.out
          obtain ⟨⟨b, o, rfl, z1, z2⟩, hm⟩ := HOS.out t wr (by omega) hNw
          have HC : Hid (Calls Try.prog 22 #[.pointer (some ⟨w.heap.size + 2, 0, none⟩), rv (Os t)] wr fun e w' => (∃ E, e = .returned (.int .i64 E)) ∧ Inv2 W (w.heap.size + 1) (w.heap.size + 2) Os N (t + 1) w') := inv2_step HI.out (by omega) hm
          generalize Os t = y at z1 z2 HC
          clear HI HIA hm HLS HCX HOS
          go_wp2_with fail
          refine HC.out.mono ?_
          rintro e w1 ⟨⟨E, rfl⟩, hI⟩
          have HI1 : Hid (Inv2 W (w.heap.size + 1) (w.heap.size + 2) Os N (t + 1) w1) := hI
          clear hI HC
          go_wp2
          go_roundg (N - (t + 1))
          case measure => omega
          case rel => exact ⟨t + 1, by omega, Nat.le_refl _, by go_num, HI1⟩
        · have hte : t = N := by omega
          have HIN : Hid (Two W (w.heap.size + 1) (w.heap.size + 2) [] [] (.slice none 0 0) [] wr) := by have := HI.out; rw [hte] at this; exact inv2_end this
          clear HI HIA HLS HCX HOS
          by_cases h1 : (t : Int) < (olen : Int)
          · have h2 : ¬ (t : Int) < 1000 := by omega
            go_wp2_with fail
            go_meet
            case rel => exact HIN
          · go_wp2_with fail
            go_meet
            case rel => exact HIN
    case rest =>
      obtain ⟨wB, hwB⟩ : ∃ z, z = wc := ⟨_, rfl⟩
      subst hwB
      have HTB : Hid (Two W (w.heap.size + 1) (w.heap.size + 2) [] [] (.slice none 0 0) [] wB) := hcut
      clear hcut HIA HOS
      have T30 : Hid (∀ V, Nw wB V → Calls Try.prog 30 #[.pointer (some ⟨w.heap.size + 2, 0, none⟩)] V fun e w' => e = .returned (.int .i64 0) ∧ Nw V w') := fun V hV => by
        obtain ⟨oq, hq⟩ := (HTB.out.nw hV).q
        exact total_any _ oq [] V hq (Nat.zero_le _) Good.nil.fits
      have T26 : Hid (∀ V, Nw wB V → Calls Try.prog 26 #[.pointer (some ⟨w.heap.size + 2, 0, none⟩)] V fun e w' => ∃ a c, e = .returned (.slice a 0 c) ∧ Nw V w') := fun V hV => by
        obtain ⟨oq, hq⟩ := (HTB.out.nw hV).q
        refine (all_any _ oq [] V hq (Nat.zero_le _)).mono ?_
        rintro e w' ⟨a, c, rfl, og, _, _, h⟩
        exact ⟨a, c, rfl, h⟩
      go_wp2_with fail
      refine (T30.out _ (Fr.refl _ _)).mono ?_
      rintro e v1 ⟨rfl, hv1⟩
      go_wp2_with fail
      refine (T26.out _ hv1).mono ?_
      rintro e v2 ⟨ea, ec, rfl, hv2⟩
      have HIC : Hid (Inv3 W (w.heap.size + 1) (w.heap.size + 2) Ls 0 v2) := inv3_start (HTB.out.nw (hv1.trans hv2))
      clear hv1 hv2 HTB T30 T26
      go_upto_block 4 with fail
      go_cut [11] (fun i w' => Hid (Inv4 W (w.heap.size + 1) (w.heap.size + 2) Ls len len w'))
      case first =>
        go_wp2_with fail
        go_loopg [11] M (fun kx i wr => ∃ t : Nat, t ≤ M ∧ M - t ≤ kx ∧ i = .int .i64 t ∧ Hid (Inv3 W (w.heap.size + 1) (w.heap.size + 2) Ls t wr))
        case atStart => exact ⟨0, Nat.zero_le _, by omega, rfl, HIC⟩
        case round =>
          obtain ⟨t, ht, hkx, rfl, HI⟩ := hrel
          by_cases hlt : t < M
          · have h1 : (t : Int) < (len : Int) := by omega
            have h2 : (t : Int) < 1000 := by omega
            have hNw : Nw W wr := HI.out.choose_spec.1.out
            obtain ⟨⟨b, o, rfl, z1, z2⟩, hm⟩ := HLS.out t wr (by omega) hNw
            have HC : Hid (Calls Try.prog 24 #[.pointer (some ⟨w.heap.size + 1, 0, none⟩), rv (Ls t)] wr fun e w' => (∃ E, e = .returned (.int .i64 E)) ∧ Inv3 W (w.heap.size + 1) (w.heap.size + 2) Ls (t + 1) w') := inv3_step HI.out (by omega) hm
            generalize Ls t = y at z1 z2 HC
            clear HI HIC hm HLS HCX
            go_wp2_with fail
            refine HC.out.mono ?_
            rintro e w1 ⟨⟨E, rfl⟩, hI⟩
            have HI1 : Hid (Inv3 W (w.heap.size + 1) (w.heap.size + 2) Ls (t + 1) w1) := hI
            clear hI HC
            go_wp2
            go_roundg (M - (t + 1))
            case measure => omega
            case rel => exact ⟨t + 1, by omega, Nat.le_refl _, by go_num, HI1⟩
          · have hte : t = M := by omega
            have HIN : Hid (Inv4 W (w.heap.size + 1) (w.heap.size + 2) Ls len len wr) := inv4_start HI.out (by omega)
            clear HI HIC HLS HCX
            by_cases h1 : (t : Int) < (len : Int)
            · have h2 : ¬ (t : Int) < 1000 := by omega
              go_wp2_with fail
              go_meet
              case rel => exact HIN
            · go_wp2_with fail
              go_meet
              case rel => exact HIN
      case rest =>
        obtain ⟨wC, hwC⟩ : ∃ z, z = wc := ⟨_, rfl⟩
        subst hwC
        have HID : Hid (Inv4 W (w.heap.size + 1) (w.heap.size + 2) Ls len len wC) := hcut
        clear hcut HIC
        go_upto_block 6 with fail
        go_cut [12] (fun i w' => Hid (Inv4 W (w.heap.size + 1) (w.heap.size + 2) Ls len 0 w'))
        case first =>
          go_wp2_with fail
          go_loopg [12] len (fun kx i wr => ∃ t : Nat, t ≤ len ∧ t ≤ kx ∧ i = .int .i64 ((t : Int) - 1) ∧ Hid (Inv4 W (w.heap.size + 1) (w.heap.size + 2) Ls len t wr))
          case atStart => exact ⟨len, Nat.le_refl _, Nat.le_refl _, rfl, HID⟩
          case round =>
            obtain ⟨t, ht, hkx, rfl, HI⟩ := hrel
            rcases t with _ | s
            · have e0 : ((0 : Nat) : Int) - 1 = -1 := rfl
              rw [e0]
              clear HID HLS HCX
              go_wp2_with fail
              go_meet
              case rel => exact HI
            · have e0 : ((s + 1 : Nat) : Int) - 1 = (s : Int) := by omega
              rw [e0]
              have h1 : (s : Int) < (len : Int) := by omega
              by_cases hs : s < 1000
              · have h2 : (s : Int) < 1000 := by omega
                have hNw : Nw W wr := HI.out.choose_spec.choose_spec.1.out
                obtain ⟨⟨b, o, rfl, z1, z2⟩, hm⟩ := HLS.out s wr (by omega) hNw
                have HC : Hid (Calls Try.prog 24 #[.pointer (some ⟨w.heap.size + 2, 0, none⟩), rv (Ls s)] wr fun e w' => (∃ E, e = .returned (.int .i64 E)) ∧ Inv4 W (w.heap.size + 1) (w.heap.size + 2) Ls len s w') := inv4_step HI.out (by omega) (by omega) hm
                generalize Ls s = y at z1 z2 HC
                clear HI HID hm HLS HCX
                go_wp2_with fail
                refine HC.out.mono ?_
                rintro e w1 ⟨⟨E, rfl⟩, hI⟩
                have HI1 : Hid (Inv4 W (w.heap.size + 1) (w.heap.size + 2) Ls len s w1) := hI
                clear hI HC
                go_wp2
                go_roundg s
                case measure => omega
                case rel => exact ⟨s, by omega, Nat.le_refl _, by go_num, HI1⟩
              · have h2 : ¬ (s : Int) < 1000 := by omega
                have HI1 : Hid (Inv4 W (w.heap.size + 1) (w.heap.size + 2) Ls len s wr) := inv4_skip HI.out (by omega)
                clear HI HID HLS HCX
                go_wp2
                go_roundg s
                case measure => omega
                case rel => exact ⟨s, by omega, Nat.le_refl _, by go_num, HI1⟩
        case rest =>
          obtain ⟨wD, hwD⟩ : ∃ z, z = wc := ⟨_, rfl⟩
          subst hwD
          obtain ⟨L, hTD, hLG, hLl⟩ := inv4_end hcut.out
          have HTD : Hid (Two W (w.heap.size + 1) (w.heap.size + 2) L L (.slice none 0 0) [] wD) := hTD
          clear hcut HID HLS hTD
          obtain ⟨G, hG⟩ : ∃ G, G = refGaps L x := ⟨_, rfl⟩
          obtain ⟨T, hT⟩ : ∃ T, T = tot L := ⟨_, rfl⟩
          have P26 : Hid (∀ V, Nw wD V → Calls Try.prog 26 #[.pointer (some ⟨w.heap.size + 1, 0, none⟩)] V fun e w' => WoRes L V w' e) := fun V hV => by
            obtain ⟨op, hp⟩ := (HTD.out.nw hV).p
            exact all_any _ op L V hp (by omega)
          have Q26 : Hid (∀ V, Nw wD V → Calls Try.prog 26 #[.pointer (some ⟨w.heap.size + 2, 0, none⟩)] V fun e w' => WoRes L V w' e) := fun V hV => by
            obtain ⟨oq, hq⟩ := (HTD.out.nw hV).q
            exact all_any _ oq L V hq (by omega)
          have P30 : Hid (∀ V, Nw wD V → Calls Try.prog 30 #[.pointer (some ⟨w.heap.size + 1, 0, none⟩)] V fun e w' => e = .returned (.int .i64 T) ∧ Nw V w') := fun V hV => by
            obtain ⟨op, hp⟩ := (HTD.out.nw hV).p
            rw [hT]; exact total_any _ op L V hp (by omega) hLG.fits
          have Q30 : Hid (∀ V, Nw wD V → Calls Try.prog 30 #[.pointer (some ⟨w.heap.size + 2, 0, none⟩)] V fun e w' => e = .returned (.int .i64 T) ∧ Nw V w') := fun V hV => by
            obtain ⟨oq, hq⟩ := (HTD.out.nw hV).q
            rw [hT]; exact total_any _ oq L V hq (by omega) hLG.fits
          have P27 : Hid (∀ V, Nw wD V → Calls Try.prog 27 #[.pointer (some ⟨w.heap.size + 1, 0, none⟩), rv x] V fun e w' => WoRes G V w' e) := fun V hV => by
            obtain ⟨op, hp⟩ := (HTD.out.nw hV).p
            rw [hG]; exact lgaps _ op L x V hp hLG (by omega) hx
          have HGT : Hid (G = refGaps L x ∧ T = tot L) := ⟨hG, hT⟩
          have HLG : Hid (Good L ∧ L.length ≤ 1000) := ⟨hLG, hLl⟩
          have hWD : Nw W wD := HTD.out.out
          clear hG hT hLG
          go_wp2_with fail
          refine (P26.out _ (Fr.refl _ _)).mono ?_
          rintro e v1 ⟨pa, pc, rfl, hq⟩
          obtain ⟨hs1, _, hv1⟩ := newS_sl hq
          clear hq
          go_wp2_with fail
          refine (Q26.out _ hv1).mono ?_
          rintro e v2 ⟨qa, qc, rfl, hq⟩
          obtain ⟨hs2, _, hq2⟩ := newS_sl hq
          have hs1' := hs1.nw hq2
          have hv2 : Nw wD v2 := hv1.trans hq2
          clear hq hs1 hq2 hv1
          go_wp2_with fail
          refine (same_any _ _ _ _ L _ hs1' hs2 (by omega)).mono ?_
          rintro e v3 ⟨rfl, hq⟩
          have hv3 : Nw wD v3 := hv2.trans hq
          clear hq hs1' hs2 hv2
          go_wp2_with fail
          refine (P30.out _ hv3).mono ?_
          rintro e v4 ⟨rfl, hq⟩
          have hv4 : Nw wD v4 := hv3.trans hq
          clear hq hv3
          go_wp2_with fail
          refine (Q30.out _ hv4).mono ?_
          rintro e v5 ⟨rfl, hq⟩
          have hv5 : Nw wD v5 := hv4.trans hq
          clear hq hv4
          obtain ⟨x1, x2⟩ := HCX.out v5 (hWD.trans hv5)
          go_wp2_with fail
          refine (P27.out _ hv5).mono ?_
          rintro e v6 ⟨ga, gc, rfl, hq⟩
          have HT6 : Hid (Two W (w.heap.size + 1) (w.heap.size + 2) L L (.slice ga G.length gc) G v6) := (HTD.out.nw hv5).newg hq
          have HGG : Hid (Good G ∧ G.length ≤ 1001 ∧ ∀ t (ht : t < G.length), (G[t]).1 < (G[t]).2 ∧ x.1 ≤ (G[t]).1 ∧ (G[t]).2 ≤ x.2 ∧ cb G[t] = true ∧ decide (refGaps L G[t] = []) = false ∧ (G[t]).2 ≤ 9223372036854775807 ∧ 0 ≤ (G[t]).1) := by
            have hg := HGT.out.1
            have hf := gaps_fact L x HLG.out.1 hx
            have he := gap_each L x HLG.out.1 hx
            rw [← hg] at hf he
            exact ⟨hf.1, by have := hf.2.1; omega, he⟩
          have hGl : G.length ≤ 1001 := HGG.out.2.1
          clear hq hv5 x1 x2 P26 Q26 P30 Q30 P27 HTD hWD
          go_upto_block 8 with fail
          go_cut [14, 15] (fun m i w' => m = .int .i64 (tot G) ∧ Hid (Two W (w.heap.size + 1) (w.heap.size + 2) L L (.slice ga G.length gc) G w'))
          case first =>
            go_wp2_with fail
            go_loopg [14, 15] G.length (fun kx m i wr => ∃ t : Nat, t ≤ G.length ∧ G.length - t ≤ kx ∧ m = .int .i64 (tot (G.take t)) ∧ i = .int .i64 t ∧ Hid (Two W (w.heap.size + 1) (w.heap.size + 2) L L (.slice ga G.length gc) G wr))
            case atStart => exact ⟨0, Nat.zero_le _, by omega, rfl, rfl, HT6⟩
            case round =>
              obtain ⟨t, ht, hkx, rfl, rfl, HI⟩ := hrel
              by_cases hlt : t < G.length
              · have hsz : (t : Int) < (G.length : Int) := by omega
                obtain ⟨g, gc', _, hv, hcm, e1, e2⟩ := SVal.get HI.out.sl t hlt
                injection hv with hv1 hv0 hv2
                clear hv0
                subst hv1 hv2
                have hWr : Nw W wr := HI.out.out
                obtain ⟨x1, x2⟩ := HCX.out wr hWr
                obtain ⟨f1, f2, f3, f4, f5, f6, f7⟩ := HGG.out.2.2 t hlt
                have hTT : tot (G.take (t + 1)) = tot (G.take t) + (G[t].2 - G[t].1) := by
                  rw [List.take_succ_eq_append_getElem hlt, tot_append]; simp only [tot]; omega
                have hT0 := tot_bound _ (HGG.out.1.take t)
                have hT1 := tot_bound _ (HGG.out.1.take (t + 1))
                have SLK : Hid (∀ V, Nw wr V → V.cell? ⟨g, t * 2, none⟩ = some (.int .i64 G[t].1) ∧ V.cell? ⟨g, t * 2 + 1, none⟩ = some (.int .i64 G[t].2) ∧ V.cell? ⟨w.heap.size, 0, none⟩ = some (.int .i64 x.1) ∧ V.cell? ⟨w.heap.size, 1, none⟩ = some (.int .i64 x.2)) := fun V hV => ⟨hV.cell e1, hV.cell e2, hV.cell x1, hV.cell x2⟩
                have C32 : Hid (∀ V, Nw wr V → Calls Try.prog 32 #[.pointer (some ⟨w.heap.size + 2, 0, none⟩), rv G[t]] V fun e w' => e = .returned (.bool false) ∧ Nw V w') := fun V hV => by
                  obtain ⟨oq, hq⟩ := (HI.out.nw hV).q
                  have := lhas _ oq L G[t] V hq HLG.out.1 (by have := HLG.out.2; omega) f6
                  rw [f5, Bool.and_false] at this
                  exact this
                obtain ⟨T2, hT2⟩ : ∃ T2, T2 = tot (G.take (t + 1)) := ⟨_, rfl⟩
                rw [← hT2] at hTT hT1
                have HT2 : Hid (T2 = tot (G.take (t + 1))) := hT2
                clear hT2
                generalize tot (G.take t) = T1 at hTT hT0
                generalize G[t] = y at e1 e2 f1 f2 f3 f6 f7 hTT SLK C32
                have d1 : decide (y.2 ≤ y.1) = false := by rw [decide_eq_false_iff_not]; omega
                have d2 : decide (y.1 < x.1) = false := by rw [decide_eq_false_iff_not]; omega
                have d3 : decide (x.2 < y.2) = false := by rw [decide_eq_false_iff_not]; omega
                have HI' : Hid (∀ V, Nw wr V → Two W (w.heap.size + 1) (w.heap.size + 2) L L (.slice (some ⟨g, 0, none⟩) G.length gc) G V) := fun V hV => HI.out.nw hV
                clear HI HT6 HCX f4 f5
                go_upto_region 28 with fail
                go_cut [154] (fun s w' => s = .bool false ∧ Nw wr w')
                case first =>
                  first
                    | (go_region_held3 (fun w' => w'.cell? ⟨g, t * 2, none⟩ = some (.int .i64 y.1) ∧ w'.cell? ⟨g, t * 2 + 1, none⟩ = some (.int .i64 y.2) ∧ w'.cell? ⟨w.heap.size, 0, none⟩ = some (.int .i64 x.1) ∧ w'.cell? ⟨w.heap.size, 1, none⟩ = some (.int .i64 x.2))
                        ((refine SLK.out _ ?_; first | exact Q1 | exact (Fr.refl _ _).drew | exact Fr.refl _ _))
                        (first
                          | (go_at_call 32; refine (C32.out _ (by exact (Fr.refl _ _).drew)).mono ?_; rintro e u1 ⟨rfl, hq⟩; have Q1 : Nw wr u1 := Nw.trans (Fr.refl _ _).drew hq; clear hq)))
                    | done
                  go_wp2_with fail
                  go_meet
                  case rel => exact ⟨rfl, Q1⟩
                case rest =>
                  obtain ⟨rfl, hN1⟩ := hcut
                  obtain ⟨wE, hwE⟩ : ∃ z, z = wc := ⟨_, rfl⟩
                  subst hwE
                  obtain ⟨e1, e2, _, _⟩ := SLK.out wE hN1
                  have HIE : Hid (∀ V, Nw wE V → Two W (w.heap.size + 1) (w.heap.size + 2) L L (.slice (some ⟨g, 0, none⟩) G.length gc) G V) := fun V hV => HI'.out V (hN1.trans hV)
                  clear HI' SLK C32 d1 d2 d3
                  go_upto_region 30 with fail
                  go_quiet (fail)
                  go_wp2
                  go_roundg (G.length - (t + 1))
                  case measure => omega
                  case rel =>
                    refine ⟨t + 1, by omega, Nat.le_refl _, ?_, by go_num, HIE.out _ ?_⟩
                    · rw [← HT2.out]
                      have : wrap64 (wrap64 (T1 + y.2) - y.1) = T2 := by unfold wrap64; omega
                      rw [this]
                    · exact (Fr.refl _ _).drewN _
              · have hte : t = G.length := by omega
                subst hte
                rw [List.take_length]
                clear HT6
                go_wp2_with fail
                go_meet
                case rel => exact ⟨rfl, HI⟩
          case rest =>
            obtain ⟨rfl, HTF⟩ := hcut
            obtain ⟨wF, hwF⟩ : ∃ z, z = wc := ⟨_, rfl⟩
            subst hwF
            have hWF : Nw W wF := HTF.out.out
            obtain ⟨x1, x2⟩ := HCX.out wF hWF
            clear HT6
            cases hcb : cb x with
            | false =>
              have hG0 : G.length = 0 := by rw [HGT.out.1]; unfold refGaps; rw [if_neg (fun h => by rw [hcb] at h; cases h.1)]; rfl
              have hfin : Nw w wF := HWN.out.trans hWF
              have hz : ((G.length : Nat) : Int) = 0 := by omega
              have hor : x.1 < 0 ∨ x.2 < x.1 := by
                have := hcb; unfold cb at this; simp only [Bool.and_eq_false_iff, decide_eq_false_iff_not] at this; omega
              clear hcb HTF HGG HLG HGT HCX hWF hGl
              by_cases hx0 : x.1 < 0
              · have d1 : decide (x.1 < 0) = true := decide_eq_true hx0
                go_wp2
                go_ret
                exact ⟨by simp [hz], hfin⟩
              · have hx1 : x.2 < x.1 := hor.resolve_left hx0
                clear hor
                have d1 : decide (x.1 < 0) = false := decide_eq_false hx0
                have d2 : decide (x.2 < x.1) = true := decide_eq_true hx1
                go_wp2
                go_ret
                exact ⟨by simp [hz], hfin⟩
            | true =>
              have hx01 : 0 ≤ x.1 ∧ x.1 ≤ x.2 := by
                have := hcb; unfold cb at this; simp only [Bool.and_eq_true, decide_eq_true_eq] at this; exact this
              obtain ⟨hx0, hx1⟩ := hx01
              have HCB : Hid (cb x = true) := hcb
              have HI0 : Hid (Inv6 W (w.heap.size + 1) (w.heap.size + 2) L G (.slice ga G.length gc) 0 wF) := inv6_start HTF.out HLG.out.1 HLG.out.2
              clear hcb HTF
              go_upto_block 10 with fail
              go_cut [16] (fun i w' => Hid (Inv6 W (w.heap.size + 1) (w.heap.size + 2) L G (.slice ga G.length gc) G.length w'))
              case first =>
                go_wp2_with fail
                go_loopg [16] G.length (fun kx i wr => ∃ t : Nat, t ≤ G.length ∧ G.length - t ≤ kx ∧ i = .int .i64 t ∧ Hid (Inv6 W (w.heap.size + 1) (w.heap.size + 2) L G (.slice ga G.length gc) t wr))
                case atStart => exact ⟨0, Nat.zero_le _, by omega, rfl, HI0⟩
                case round =>
                  obtain ⟨t, ht, hkx, rfl, HI⟩ := hrel
                  by_cases hlt : t < G.length
                  · have hsz : (t : Int) < (G.length : Int) := by omega
                    obtain ⟨g, gc', _, hv, hcm, e1, e2⟩ := SVal.get HI.out.choose_spec.1.sl t hlt
                    injection hv with hv1 hv0 hv2
                    clear hv0
                    subst hv1 hv2
                    have HC : Hid (Calls Try.prog 24 #[.pointer (some ⟨w.heap.size + 2, 0, none⟩), rv G[t]] wr fun e w' => e = .returned (.int .i64 0) ∧ Inv6 W (w.heap.size + 1) (w.heap.size + 2) L G (.slice (some ⟨g, 0, none⟩) G.length gc) (t + 1) w') := inv6_step HI.out HGG.out.1 hGl hlt
                    generalize G[t] = y at e1 e2 HC
                    clear HI HI0 HCX HGG
                    go_wp2_with fail
                    refine HC.out.mono ?_
                    rintro e w1 ⟨rfl, hI⟩
                    have HI1 : Hid (Inv6 W (w.heap.size + 1) (w.heap.size + 2) L G (.slice (some ⟨g, 0, none⟩) G.length gc) (t + 1) w1) := hI
                    clear hI HC
                    go_wp2
                    go_roundg (G.length - (t + 1))
                    case measure => omega
                    case rel => exact ⟨t + 1, by omega, Nat.le_refl _, by go_num, HI1⟩
                  · have hte : t = G.length := by omega
                    have HIN : Hid (Inv6 W (w.heap.size + 1) (w.heap.size + 2) L G (.slice ga G.length gc) G.length wr) := by have := HI.out; rw [hte] at this; exact this
                    clear HI HI0 HCX HGG
                    go_wp2_with fail
                    go_meet
                    case rel => exact HIN
              case rest =>
                obtain ⟨wG, hwG⟩ : ∃ z, z = wc := ⟨_, rfl⟩
                subst hwG
                obtain ⟨Q, hTQ, hQG, hQl, hQ0, hQT⟩ : ∃ Q, Two W (w.heap.size + 1) (w.heap.size + 2) L Q (.slice ga G.length gc) G wG ∧ Good Q ∧ Q.length ≤ 65536 ∧ refGaps Q x = [] ∧ tot Q = T + tot G := by
                  have h := hcut.out
                  have hg := HGT.out.1
                  have := inv6_end (x := x) (by rw [← hg]; exact h) HLG.out.1 HLG.out.2 hx
                  rw [← hg, ← HGT.out.2] at this
                  exact this
                have hWG : Nw W wG := hTQ.out
                have hTb := tot_bound Q hQG
                have hTL := tot_bound L HLG.out.1
                rw [← HGT.out.2] at hTL
                have hTG := tot_bound G HGG.out.1
                have Q32 : Hid (∀ V, Nw wG V → Calls Try.prog 32 #[.pointer (some ⟨w.heap.size + 2, 0, none⟩), rv x] V fun e w' => e = .returned (.bool true) ∧ Nw V w') := fun V hV => by
                  obtain ⟨oq, hq⟩ := (hTQ.nw hV).q
                  have := lhas _ oq Q x V hq hQG hQl hx
                  rw [HCB.out, hQ0] at this
                  exact this
                have Q30 : Hid (∀ V, Nw wG V → Calls Try.prog 30 #[.pointer (some ⟨w.heap.size + 2, 0, none⟩)] V fun e w' => e = .returned (.int .i64 (T + tot G)) ∧ Nw V w') := fun V hV => by
                  obtain ⟨oq, hq⟩ := (hTQ.nw hV).q
                  rw [← hQT]; exact total_any _ oq Q V hq hQl hQG.fits
                have P30 : Hid (∀ V, Nw wG V → Calls Try.prog 30 #[.pointer (some ⟨w.heap.size + 1, 0, none⟩)] V fun e w' => e = .returned (.int .i64 T) ∧ Nw V w') := fun V hV => by
                  obtain ⟨op, hp⟩ := (hTQ.nw hV).p
                  rw [HGT.out.2]; exact total_any _ op L V hp (by omega) HLG.out.1.fits
                have N24 : Hid (∀ V, Nw (wG.alloc (.cells #[.slice none 0 0] 47)) V → Calls Try.prog 24 #[.pointer (some ⟨wG.heap.size, 0, none⟩), rv ((1 : Int), (3 : Int))] V fun e w' => e = .returned (.int .i64 0) ∧ Nw wG w' ∧ ∃ og, RngB wG.heap.size og [((1 : Int), (3 : Int))] w') := fun V hV => by
                  have hR : refAdd [] ((1 : Int), (3 : Int)) = ([((1 : Int), (3 : Int))], 0) := by decide
                  have hr := RngB.nw (one_start wG) hV
                  have := ladd wG.heap.size none [] ((1 : Int), (3 : Int)) V hr Good.nil (Nat.zero_le _) (by decide)
                  rw [hR] at this
                  refine this.mono ?_
                  rintro e w' ⟨rfl, hS⟩
                  refine ⟨rfl, hS.frame (((Fr.refl _ _).alloc _).trans hV) (Nat.le_refl _) (fun g hg => by cases hg), ?_⟩
                  obtain ⟨og', r1, _⟩ := hS
                  exact ⟨og', r1⟩
                have N30 : Hid (∀ V og, RngB wG.heap.size og [((1 : Int), (3 : Int))] V → Calls Try.prog 30 #[.pointer (some ⟨wG.heap.size, 0, none⟩)] V fun e w' => e = .returned (.int .i64 2) ∧ Nw V w') := fun V og hr => by
                  have hg : Good [((1 : Int), (3 : Int))] := Good_one _ (by unfold Ok1; decide)
                  exact total_any _ og _ V hr (by decide) hg.fits
                have hAL : Nw wG (wG.alloc (.cells #[.slice none 0 0] 47)) := (Fr.refl _ _).alloc _
                rw [hQT] at hTb
                generalize tot G = TG at Q30 hTb hTG ⊢
                clear hcut HI0 hTQ hQG hQl hQ0 hQT HGG HGT HLG HCB
                obtain ⟨x1, x2⟩ := HCX.out _ (hWG.trans hAL)
                go_wp2_with fail
                refine (Q32.out _ hAL).mono ?_
                rintro e k1 ⟨rfl, hq⟩
                have hk1 : Nw (wG.alloc (.cells #[.slice none 0 0] 47)) k1 := hq
                clear hq x1 x2 Q32 HCX
                go_wp2_with fail
                refine (Q30.out _ (hAL.trans hk1)).mono ?_
                rintro e k2 ⟨rfl, hq⟩
                have hk2 : Nw (wG.alloc (.cells #[.slice none 0 0] 47)) k2 := hk1.trans hq
                clear hq hk1 Q30
                go_wp2_with fail
                refine (P30.out _ (hAL.trans hk2)).mono ?_
                rintro e k3 ⟨rfl, hq⟩
                have hk3 : Nw (wG.alloc (.cells #[.slice none 0 0] 47)) k3 := hk2.trans hq
                clear hq hk2 P30
                go_wp2_with fail
                refine (N24.out _ hk3).mono ?_
                rintro e k4 ⟨rfl, hk4, og, hr⟩
                clear hk3 N24
                go_wp2_with fail
                refine (N30.out _ og hr).mono ?_
                rintro e k5 ⟨rfl, hk5⟩
                have hfin : Nw w k5 := (HWN.out.trans hWG).trans (hk4.trans hk5)
                clear N30 hr hk4 hk5 HWN hWG
                go_wp2
                go_ret
                exact ⟨rfl, hfin⟩

theorem set_all (a0 a1 : Option Addr) (len cap olen ocap : Nat) (Ls Os : Nat → Rg) (x : Rg) (w : World) (hL : IsRgs w a0 len Ls) (hO : IsRgs w a1 olen Os) (hx : x.2 ≤ 9223372036854775807) :
    Calls Try.prog 7 #[.slice a0 len cap, .slice a1 olen ocap, rv x] w fun e w' => e = .returned (.bool true) ∧ Below w.heap.size w w' :=
  (set_walk a0 a1 len cap olen ocap Ls Os x w hL hO hx).mono fun e w' ⟨he, hN⟩ => ⟨he, Fr.below (Below.refl _ _) hN (Nat.le_refl _) (fun _ h => h.elim)⟩
end Go.Proofs.Ytegabbfdnpjkkaa
