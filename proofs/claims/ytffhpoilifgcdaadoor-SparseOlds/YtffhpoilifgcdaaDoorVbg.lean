import Derived.Test.YtffhpoilifgcdaaDoorVag
namespace Go.Proofs.YtffhpoilifgcdaaDoor
open Go.RowKit
set_option linter.unusedVariables false
/-! ### The document's Octal -/
theorem drop_atF (b : List By) (I : Nat) (h : I < b.length) : b.drop I = b[I] :: b.drop (I + 1) := List.drop_eq_getElem_cons h
theorem sl_rd {X : Nat → Prop} {a : Option Addr} {n c : Nat} {b : List By} {w : World} (hb : Sl X (.slice a n c) b w) : ∀ I, (hI : I < b.length) → ∃ g o, a = some ⟨g, o, none⟩ ∧ w.cell? ⟨g, o + I, none⟩ = some (.int .u8 b[I].toNat) := fun I hI => by
  rcases hb with ⟨a', e, e2⟩ | ⟨g, _, o, c', e, e1, e2, hr⟩
  · subst e2; simp at hI
  · injection e with e _ ec
    exact ⟨g, o, e, hr I hI⟩
/-- What the number stands at: what was read, and whether it went over. -/
def OcS (ds : List By) (N : Nat) (big : Bool) : Prop := N ≤ 9223372036854775807 ∧ ((big = false ∧ N = v8 0 ds) ∨ (big = true ∧ mx < v8 0 ds))
theorem OcS.nil : OcS [] 0 false := ⟨by omega, .inl ⟨rfl, rfl⟩⟩
theorem OcS.over {ds : List By} {N d : Nat} {big : Bool} (h : OcS ds N big) (x : By) (hx : x.toNat = 48 + d) (hd : d < 8) (ho : (9223372036854775807 - d) / 8 < N) : OcS (ds ++ [x]) N true := by
  refine ⟨h.1, .inr ⟨rfl, ?_⟩⟩
  rw [v8_app, v8_cons, v8_nil, hx]
  rcases h.2 with ⟨_, e⟩ | ⟨_, e⟩
  · rw [← e, mx_eq]; omega
  · rw [mx_eq] at e ⊢; omega
theorem OcS.step {ds : List By} {N d : Nat} {big : Bool} (h : OcS ds N big) (x : By) (hx : x.toNat = 48 + d) (hd : d < 8) (ho : ¬ (9223372036854775807 - d) / 8 < N) : OcS (ds ++ [x]) (N * 8 + d) big := by
  refine ⟨by omega, ?_⟩
  rw [v8_app, v8_cons, v8_nil, hx]
  rcases h.2 with ⟨e0, e⟩ | ⟨e0, e⟩
  · exact .inl ⟨e0, by rw [← e]; omega⟩
  · exact .inr ⟨e0, by rw [mx_eq] at e ⊢; omega⟩
theorem oct_end (b : List By) (ds r : List By) (N : Nat) (big : Bool) (h : OcS ds N big) (h1 : b.dropWhile isBl = ds ++ r) (h2 : ds.all isD = true) (h3 : ∀ x, r.head? = some x → isD x = false) : dgs b = ds ∧ rst b = r := by
  unfold dgs rst
  rw [h1]
  exact tw_all ds r isD h2 h3
theorem isBl_toNat (x : By) : isBl x = decide ((x.toNat : Int) = 32) := by
  unfold isBl
  apply decide_eq_decide.2
  constructor
  · rintro rfl; rfl
  · intro h; exact BitVec.eq_of_toNat_eq (by show x.toNat = 32; omega)
set_option maxHeartbeats 16000000 in
set_option maxRecDepth 100000 in
theorem roctal_any {X : Nat → Prop} (w : World) (a : Option Addr) (n c : Nat) (b : List By) (hb : Sl X (.slice a n c) b w) :
    Calls Tryd.prog 60 #[.slice a n c] w fun e w' => e = .returned (octV b) ∧ w = w' := by
  obtain ⟨P, hP⟩ : ∃ P : Ending → World → Prop, P = fun e w' => e = .returned (octV b) ∧ w = w' := ⟨_, rfl⟩
  rw [← hP]
  have HF : Hid (P (.returned (octV b)) w) := by rw [hP]; exact ⟨rfl, rfl⟩
  clear hP
  obtain ⟨hbn, k1, k2⟩ := sl_len hb
  have HR := tHid (sl_rd hb)
  have HN := tHid hbn
  clear hb hbn
  go_enter Tryd.func60, Tryd.ntmps60
  go_upto_block 0 with fail
  go_cut [4] (fun v wx => ∃ I : Nat, I ≤ n ∧ v = .int .i64 I ∧ wx = w ∧ Hid (b.drop I = b.dropWhile isBl))
  case first =>
    clear HF
    go_wp2_with fail
    go_loopg [4] n (fun kx v wr => ∃ I : Nat, I ≤ n ∧ n - I ≤ kx ∧ v = .int .i64 I ∧ wr = w ∧ Hid ((b.drop I).dropWhile isBl = b.dropWhile isBl))
    case atStart => exact ⟨0, by omega, by omega, rfl, rfl, rfl⟩
    case round =>
      obtain ⟨I, hI, hkx, rfl, rfl, HI⟩ := hrel
      by_cases hlt : I < n
      · have hlt' : I < b.length := by have := HN.out; omega
        obtain ⟨g, o, rfl, hc⟩ := HR.out I hlt'
        have hh := HI.out
        rw [drop_atF b I hlt', List.dropWhile_cons] at hh
        have hbl := isBl_toNat b[I]
        by_cases hx : (b[I].toNat : Int) = 32
        · rw [hbl, decide_eq_true hx, if_pos rfl] at hh
          have HNX := tHid hh
          rw [hx] at hc
          have hltI : (I : Int) < (n : Int) := by omega
          have hdI : decide ((I : Int) < (n : Int)) = true := decide_eq_true hltI
          clear HR HN HI hh hx hbl
          go_wp2_with fail
          go_roundg (n - (I + 1))
          case measure => omega
          case rel => exact ⟨I + 1, by omega, by omega, by first | rfl | (congr 1), rfl, HNX⟩
        · rw [hbl, decide_eq_false hx, if_neg (by decide)] at hh
          have HNX : Hid (b.drop I = b.dropWhile isBl) := by rw [← hh]; exact drop_atF b I hlt'
          have hxb : ((b[I].toNat : Int) == 32) = false := by rw [beq_eq_false_iff_ne]; exact hx
          have hltI : (I : Int) < (n : Int) := by omega
          have hdI : decide ((I : Int) < (n : Int)) = true := decide_eq_true hltI
          clear HR HN HI hh hbl
          generalize b[I].toNat = x at *
          go_wp2_with fail
          go_meet
          exact ⟨I, by omega, rfl, rfl, HNX⟩
      · have HNX : Hid (b.drop I = b.dropWhile isBl) := by
          have := HI.out
          rw [List.drop_eq_nil_of_le (by have := HN.out; omega)] at this
          rw [← this]; exact List.drop_eq_nil_of_le (by have := HN.out; omega)
        have hdI : decide ((I : Int) < (n : Int)) = false := decide_eq_false (by omega)
        clear HR HN HI
        go_wp2_with fail
        go_meet
        exact ⟨I, by omega, rfl, rfl, HNX⟩
  case rest =>
  obtain ⟨I0, hI0, rfl, hw, HI0⟩ := hcut
  have hw' := hw.symm
  subst hw'
  clear hw
  go_upto_block 2 with fail
  go_cut [4, 5, 6] from 7 to 55 (fun v4 v5 v6 wx => ∃ (I N : Nat) (big : Bool), I ≤ n ∧ v4 = .int .i64 I ∧ v5 = .int .i64 N ∧ v6 = .bool big ∧ wx = w ∧ Hid (OcS (dgs b) N big ∧ b.drop I = rst b))
  case first =>
    clear HF
    go_wp2_with fail
    go_loopg [4, 5, 6] n (fun kx v4 v5 v6 wr => ∃ (I N : Nat) (big : Bool), I ≤ n ∧ n - I ≤ kx ∧ v4 = .int .i64 I ∧ v5 = .int .i64 N ∧ v6 = .bool big ∧ N ≤ 9223372036854775807 ∧ wr = w ∧ Hid (∃ ds, OcS ds N big ∧ b.dropWhile isBl = ds ++ b.drop I ∧ ds.all isD = true))
    case atStart => exact ⟨I0, 0, false, hI0, by omega, rfl, rfl, rfl, by omega, rfl, [], OcS.nil, HI0.out.symm, rfl⟩
    case round =>
      obtain ⟨I, N, big, hI, hkx, rfl, rfl, rfl, hN9, rfl, HI⟩ := hrel
      obtain ⟨ds, hS, hds, hall⟩ := HI.out
      by_cases hlt : I < n
      · have hlt' : I < b.length := by have := HN.out; omega
        obtain ⟨g, o, rfl, hc⟩ := HR.out I hlt'
        have hltI : (I : Int) < (n : Int) := by omega
        have hdI : decide ((I : Int) < (n : Int)) = true := decide_eq_true hltI
        cases hd : isD b[I] with
        | true =>
          have hd2 := of_decide_eq_true hd
          obtain ⟨d, hdx⟩ : ∃ d, b[I].toNat = 48 + d := ⟨b[I].toNat - 48, by omega⟩
          have hd8 : d < 8 := by omega
          have hnew : b.dropWhile isBl = (ds ++ [b[I]]) ++ b.drop (I + 1) := by rw [hds, drop_atF b I hlt', List.append_assoc]; rfl
          have hall2 : (ds ++ [b[I]]).all isD = true := by rw [List.all_append, hall, List.all_cons, hd]; rfl
          have HOV := tHid (fun ho => hS.over b[I] hdx hd8 ho)
          have HST := tHid (fun ho => hS.step b[I] hdx hd8 ho)
          have HNW : Hid (∀ N2 big2, OcS (ds ++ [b[I]]) N2 big2 → ∃ ds, OcS ds N2 big2 ∧ b.dropWhile isBl = ds ++ b.drop (I + 1) ∧ ds.all isD = true) := fun N2 big2 h => ⟨_, h, hnew, hall2⟩
          rw [hdx] at hc
          obtain ⟨y, hy⟩ : ∃ y, 48 + d = y := ⟨_, rfl⟩
          rw [hy] at hc
          have hy1 : (48 : Int) ≤ (y : Int) := by omega
          have hy2 : (y : Int) ≤ 55 := by omega
          have dy1 : decide ((48 : Int) ≤ (y : Int)) = true := decide_eq_true hy1
          have dy2 : decide ((y : Int) ≤ 55) = true := decide_eq_true hy2
          have hyd : (y : Int) - 48 = (d : Int) := by omega
          have hq : (9223372036854775807 - (d : Int)).tdiv 8 = ((9223372036854775807 - d) / 8 : Nat) := by
            rw [Int.tdiv_eq_ediv_of_nonneg (by omega)]; omega
          by_cases ho : (9223372036854775807 - d) / 8 < N
          · have HM := tHid (HNW.out _ _ (HOV.out ho))
            generalize hQ : (9223372036854775807 - d) / 8 = Q at *
            have ho2 : (Q : Int) < (N : Int) := by omega
            clear HR HN HI hS hds hall hd hd2 hnew hall2 HOV HST HNW hdx hy hQ
            go_wp2_with fail
            go_roundg (n - (I + 1))
            case measure => omega
            case rel => exact ⟨I + 1, N, true, by omega, by omega, by first | rfl | (congr 1), rfl, rfl, hN9, rfl, HM⟩
          · have HM := tHid (HNW.out _ _ (HST.out ho))
            generalize hQ : (9223372036854775807 - d) / 8 = Q at *
            have ho2 : ¬ (Q : Int) < (N : Int) := by omega
            have ho4 : Q ≤ 1152921504606846975 := by omega
            have hN8 : N * 8 + d ≤ 9223372036854775807 := by omega
            have ho3 : decide ((Q : Int) < (N : Int)) = false := decide_eq_false ho2
            clear HR HN HI hS hds hall hd hd2 hnew hall2 HOV HST HNW hdx hy hQ
            go_wp2_with fail
            go_roundg (n - (I + 1))
            case measure => omega
            case rel => exact ⟨I + 1, N * 8 + d, big, by omega, by omega, by first | rfl | (congr 1), by first | rfl | (congr 1), rfl, hN8, rfl, HM⟩
        | false =>
          have hE := oct_end b ds (b.drop I) N big hS hds hall (fun x hx => by rw [drop_atF b I hlt'] at hx; injection hx with hx; rw [← hx]; exact hd)
          have HM : Hid (OcS (dgs b) N big ∧ b.drop I = rst b) := by
            show _ ∧ _
            rw [hE.1, hE.2]; exact ⟨hS, rfl⟩
          have hd2 := of_decide_eq_false hd
          have hxl := b[I].isLt
          clear HR HN HI hS hds hall hd hE
          generalize b[I].toNat = y at *
          by_cases y1 : (48 : Int) ≤ (y : Int)
          · have y2 : ¬ (y : Int) ≤ 55 := by omega
            have dy1 : decide ((48 : Int) ≤ (y : Int)) = true := decide_eq_true y1
            have dy2 : decide ((y : Int) ≤ 55) = false := decide_eq_false y2
            go_wp2_with fail
            go_meet
            exact ⟨I, N, big, by omega, rfl, rfl, rfl, rfl, HM⟩
          · have dy1 : decide ((48 : Int) ≤ (y : Int)) = false := decide_eq_false y1
            go_wp2_with fail
            go_meet
            exact ⟨I, N, big, by omega, rfl, rfl, rfl, rfl, HM⟩
      · have hnil : b.drop I = [] := List.drop_eq_nil_of_le (by have := HN.out; omega)
        have hE := oct_end b ds (b.drop I) N big hS hds hall (fun x hx => by rw [hnil] at hx; cases hx)
        have HM : Hid (OcS (dgs b) N big ∧ b.drop I = rst b) := by
          show _ ∧ _
          rw [hE.1, hE.2]; exact ⟨hS, rfl⟩
        have hdI : decide ((I : Int) < (n : Int)) = false := decide_eq_false (by omega)
        clear HR HN HI hS hds hall hE hnil
        go_wp2_with fail
        go_meet
        exact ⟨I, N, big, by omega, rfl, rfl, rfl, rfl, HM⟩
  case rest =>
  obtain ⟨I1, N, big, hI1, rfl, rfl, rfl, hw, HI1⟩ := hcut
  have hw' := hw.symm
  subst hw'
  clear hw HI0 hI0
  go_wp2_with fail
  go_loopg [4] n (fun kx v wr => ∃ I : Nat, I ≤ n ∧ n - I ≤ kx ∧ v = .int .i64 I ∧ wr = w ∧ Hid (∃ pre, rst b = pre ++ b.drop I ∧ pre.all isBz = true))
  case atStart => exact ⟨I1, by omega, by omega, rfl, rfl, [], HI1.out.2.symm, rfl⟩
  case round =>
    obtain ⟨I, hI, hkx, rfl, rfl, HI⟩ := hrel
    obtain ⟨pre, hpre, hall⟩ := HI.out
    obtain ⟨hS, _⟩ := HI1.out
    by_cases hlt : I < n
    · have hlt' : I < b.length := by have := HN.out; omega
      obtain ⟨g, o, rfl, hc⟩ := HR.out I hlt'
      have hltI : (I : Int) < (n : Int) := by omega
      cases hd : isBz b[I] with
      | true =>
        have HNX : Hid (∃ pre, rst b = pre ++ b.drop (I + 1) ∧ pre.all isBz = true) := ⟨pre ++ [b[I]], by rw [hpre, drop_atF b I hlt', List.append_assoc]; rfl, by rw [List.all_append, hall, List.all_cons, hd]; rfl⟩
        have hd2 := of_decide_eq_true hd
        rcases hd2 with e | e
        · rw [e] at hc
          have hc2 : wr.cell? ⟨g, o + I, none⟩ = some (.int .u8 32) := hc
          clear HR HN HI hpre hall hd HI1 hS HF e hc
          go_wp2_with fail
          go_roundg (n - (I + 1))
          case measure => omega
          case rel => exact ⟨I + 1, by omega, by omega, by first | rfl | (congr 1), rfl, HNX⟩
        · rw [e] at hc
          have hc2 : wr.cell? ⟨g, o + I, none⟩ = some (.int .u8 0) := hc
          clear HR HN HI hpre hall hd HI1 hS HF e hc
          go_wp2_with fail
          go_roundg (n - (I + 1))
          case measure => omega
          case rel => exact ⟨I + 1, by omega, by omega, by first | rfl | (congr 1), rfl, HNX⟩
      | false =>
        have hno : (rst b).all isBz = false := by
          rw [hpre, drop_atF b I hlt', List.all_append, List.all_cons, hd]; simp
        rw [octV_of b 0 120 (by unfold octN; rw [hno]; rfl) (by unfold octE; rw [hno]; rfl)] at HF
        have hd2 := of_decide_eq_false hd
        have n1 : ¬ (b[I].toNat : Int) = 32 := fun e => hd2 (.inl (BitVec.eq_of_toNat_eq (by show b[I].toNat = 32; omega)))
        have n2 : ¬ (b[I].toNat : Int) = 0 := fun e => hd2 (.inr (BitVec.eq_of_toNat_eq (by show b[I].toNat = 0; omega)))
        have m1 : ((b[I].toNat : Int) != 32) = true := by simpa using n1
        have m2 : ((b[I].toNat : Int) != 0) = true := by simpa using n2
        have n3 : ¬ b[I].toNat = 0 := by omega
        clear HR HN HI hpre hall hd HI1 hS hd2 hno
        generalize b[I].toNat = y at *
        go_wp2_with fail
        exact HF.out
    · have hyes : (rst b).all isBz = true := by
        rw [hpre, List.drop_eq_nil_of_le (by have := HN.out; omega), List.append_nil]; exact hall
      cases big with
      | true =>
        have hno : ¬ v8 0 (dgs b) ≤ mx := by
          rcases hS.2 with ⟨e, _⟩ | ⟨_, e⟩
          · cases e
          · omega
        rw [octV_of b 0 121 (by unfold octN; rw [hyes, if_pos rfl, if_neg hno]) (by unfold octE; rw [hyes, if_pos rfl, if_neg hno])] at HF
        clear HR HN HI hpre hall HI1 hS hno hyes
        go_wp2_with fail
        exact HF.out
      | false =>
        have hN : N = v8 0 (dgs b) := by
          rcases hS.2 with ⟨_, e⟩ | ⟨e, _⟩
          · exact e
          · cases e
        have hle : v8 0 (dgs b) ≤ mx := by rw [← hN, mx_eq]; exact hS.1
        rw [octV_of b N 0 (by unfold octN; rw [hyes, if_pos rfl, if_pos hle, hN]) (by unfold octE; rw [hyes, if_pos rfl, if_pos hle])] at HF
        clear HR HN HI hpre hall HI1 hS hN hle hyes
        go_wp2_with fail
        exact HF.out
end Go.Proofs.YtffhpoilifgcdaaDoor
