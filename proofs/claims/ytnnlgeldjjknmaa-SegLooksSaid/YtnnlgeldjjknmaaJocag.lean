/-
  Texts laid one behind the other: Tg Tt Tr Tn To Ev Tq Tu.
-/
import Derived.Test.YtnnlgeldjjknmaaJocae
import Derived.Test.YtnnlgeldjjknmaaJocaf
import Derived.Lib.SliceRun
import Derived.Test.YtnnlgeldjjknmaaJocac
import Derived.BigQuiet
import Derived.Maps.RangeRun
import Derived.Maps.OwnSet
import Derived.WideKeyRuns

/-
  Stage 11: the program's Total, and Same by slices.Equal.
-/
namespace Go.Proofs.Ytnnlgeldjjknmaa
open Go.RowKit

set_option maxRecDepth 100000

theorem run_neq_row11 (f g : R11) (W : World) (b : Bool) (h : decide (f = g) = b) : (binOp .neq 51 (rv11 f) (rv11 g)).run Try.prog W = .ok (.bool (!b)) W := by rw [run_neq_row, h]

set_option maxHeartbeats 4000000 in
theorem equal11 (a b : Value) (K L : List R11) (w : World) (ha : RdE ER w a K) (hb : RdE ER w b L) (hl : L.length ≤ 1000) :
    Calls Try.prog 48 #[a, b] w fun e w' => e = .returned (.bool (decide (K = L))) ∧ Turn (fun _ => False) w w' := by
  have HA := Lib.hid ha; have HB := Lib.hid hb
  obtain ⟨A, c, rfl⟩ := ha.shape
  obtain ⟨B, d, rfl⟩ := hb.shape
  clear ha hb
  by_cases hne : K.length = L.length
  · have HL := Lib.hid hne
    have HNE : Hid ((K.length : Int) = (L.length : Int)) := by show (K.length : Int) = _; omega
    rw [hne]
    have HA2 : Hid (RdE ER w (.slice A L.length c) K) := by have h := HA.out; rw [hne] at h; exact h
    clear HA hne HNE
    go_enter Try.func48, Try.ntmps48
    go_wp2_with fail
    go_loopw [13] (fun x13 wr => ∃ i : Nat, x13 = .int .i64 (i : Int) ∧ i ≤ L.length ∧ K.take i = L.take i ∧ Turn (fun _ => False) w wr) (fun x13 _ => L.length - (intOf x13).toNat)
    case atStart => exact ⟨0, rfl, Nat.zero_le _, rfl, Turn.refl _ _⟩
    case round =>
      obtain ⟨i, rfl, hi, he, ht⟩ := hrel
      have HE := Lib.hid he; have HT := Lib.hid ht
      clear he ht
      by_cases hlt : i < L.length
      · obtain ⟨y, hy⟩ : ∃ y, L[i]? = some y := ⟨_, List.getElem?_eq_getElem hlt⟩
        obtain ⟨x, hx⟩ : ∃ x, K[i]? = some x := ⟨_, List.getElem?_eq_getElem (by rw [HL.out]; exact hlt)⟩
        obtain ⟨ad, rfl, hc⟩ := row_at11 HA2.out hx
        obtain ⟨bd, rfl, hd⟩ := row_at11 HB.out hy
        obtain ⟨c0, c1, c2, c3, c4, c5, c6, c7, c8⟩ := hc wr HT.out
        obtain ⟨d0, d1, d2, d3, d4, d5, d6, d7, d8⟩ := hd wr HT.out
        have hil : (i : Int) < L.length := by omega
        have hgd := fun X Y => guard_row11 .neq X Y x y
        by_cases hxy : x = y
        · have hne := fun W => run_neq_row11 x y W true (decide_eq_true hxy)
          simp only [Bool.not_true] at hne
          have HNX : Hid (K.take (i + 1) = L.take (i + 1)) := by
            obtain ⟨h1, e1⟩ := List.getElem?_eq_some_iff.1 hx
            obtain ⟨h2, e2⟩ := List.getElem?_eq_some_iff.1 hy
            show _ = _
            rw [List.take_succ_eq_append_getElem h1, List.take_succ_eq_append_getElem h2, HE.out, e1, e2, hxy]
          clear hc hd hx hy hxy
          go_wp2_with fail
          go_quiet (fail)
          go_wp2
          go_roundw
          case rel => exact ⟨i + 1, by go_num, hlt, HNX.out, HT.out.drewN nq⟩
          case measure => simp [intOf]; omega
        · have hne := fun W => run_neq_row11 x y W false (decide_eq_false hxy)
          simp only [Bool.not_false] at hne
          have HNO : Hid (decide (K = L) = false) := decide_eq_false fun e => by
            rw [e, hy] at hx
            cases hx
            exact hxy rfl
          clear hc hd hx hy hxy
          go_wp2_with fail
          go_quiet (fail)
          go_wp2
          go_ret
          rw [HNO.out]
          exact ⟨rfl, HT.out.drewN nq⟩
      · obtain rfl : i = L.length := by omega
        have HYE : Hid (decide (K = L) = true) := decide_eq_true (by
          have h := HE.out
          rw [List.take_length, List.take_of_length_le (by rw [HL.out]; exact Nat.le_refl _)] at h
          exact h)
        go_wp2
        go_ret
        rw [HYE.out]
        exact ⟨rfl, HT.out⟩
  · have HNO : Hid (decide (K = L) = false) := decide_eq_false fun e => hne (by rw [e])
    have hn : ¬ ((K.length : Int) = (L.length : Int)) := by omega
    have hnb : ((K.length : Int) == (L.length : Int)) = false := by rw [beq_eq_false_iff_ne]; exact hn
    have hnb2 : ((K.length : Int) != (L.length : Int)) = true := by rw [bne_iff_ne]; exact hn
    clear hne hn
    go_enter Try.func48, Try.ntmps48
    go_wp2_with fail
    go_ret
    rw [HNO.out]
    exact ⟨rfl, Turn.refl _ _⟩

set_option maxHeartbeats 1000000 in
theorem same_any11 (s t : Value) (K L : List R11) (w : World) (h : SV11 w s K) (g : SV11 w t L) : Calls Try.prog 26 #[s, t] w fun e w' => e = .returned (.bool (decide (K = L))) ∧ Turn (fun _ => False) w w' := by
  have HA := Lib.hid (all_any11 s K w h)
  have HB := Lib.hid (all_any11 t L w g)
  have hl := g.right.2.2
  obtain ⟨p, rfl⟩ := h.ptr
  obtain ⟨q, rfl⟩ := g.ptr
  clear h g
  go_enter Try.func26, Try.ntmps26
  go_wp2_with fail
  refine HA.out.mono ?_
  rintro e w1 ⟨s1, rfl, h1, hw⟩
  replace hw := hw.symm
  subst hw
  obtain ⟨A, c, rfl⟩ := h1.shape
  have H1 := Lib.hid h1
  clear h1
  go_wp2_with fail
  refine HB.out.mono ?_
  rintro e w1 ⟨s2, rfl, h2, hw⟩
  replace hw := hw.symm
  subst hw
  obtain ⟨B, d, rfl⟩ := h2.shape
  have H2 := Lib.hid h2
  clear h2
  have HE := Lib.hid (equal11 _ _ K L w H1.out H2.out hl)
  go_wp2_with fail
  refine HE.out.mono ?_
  rintro e w1 ⟨rfl, t1⟩
  have HT := Lib.hid t1
  clear t1
  go_wp2
  go_ret
  exact ⟨rfl, HT.out⟩

end Go.Proofs.Ytnnlgeldjjknmaa

/-
  Stage 11: the program's Total.
-/
namespace Go.Proofs.Ytnnlgeldjjknmaa
open Go.RowKit

set_option maxRecDepth 100000

set_option maxHeartbeats 8000000 in
theorem total_any11 (s : Value) (L : List R11) (w : World) (h : SV11 w s L) : Calls Try.prog 22 #[s] w fun e w' => e = .returned (outC (totalR Cl.zero L)) ∧ Turn (fun _ => False) w w' := by
  have HAL : Hid (∀ W, Turn (fun _ => False) w W → Calls Try.prog 43 #[s] W fun e w' => AllS11 W L e w') := fun W ht => all_any11 s L W (h.later ht)
  have HOK := Lib.hid h.right.2.1
  have hl := h.right.2.2
  obtain ⟨p, rfl⟩ := h.ptr
  clear h
  obtain ⟨w0, hw0⟩ : ∃ w0, w0 = (w.alloc (.cells #[.int .i64 0, .int .i64 0, .int .i64 0, .int .i64 0] 47)).alloc (.cells #[.int .i64 0, .int .i64 0, .int .i64 0, .int .i64 0] 47) := ⟨_, rfl⟩
  obtain ⟨b, hb⟩ : ∃ b, b = w.heap.size + 1 := ⟨_, rfl⟩
  obtain ⟨g, hg⟩ : ∃ g, g = w.heap.size := ⟨_, rfl⟩
  have HB0 : Hid (Box w0 b 47 (ca Cl.zero)) := by
    have h := Box.new (w.alloc (.cells #[.int .i64 0, .int .i64 0, .int .i64 0, .int .i64 0] 47)) 47 #[.int .i64 0, .int .i64 0, .int .i64 0, .int .i64 0]
    rw [World.size_alloc] at h
    rw [hw0, hb]
    exact h
  have HG0 : Hid (Box w0 g 47 (ca Cl.zero)) := by rw [hw0, hg]; exact (Box.new w 47 #[.int .i64 0, .int .i64 0, .int .i64 0, .int .i64 0]).alloc _
  have HT0 : Hid (Turn (fun _ => False) w w0) := by rw [hw0]; exact ((Turn.refl _ w).alloc _).alloc _
  have HNE : Hid (g ≠ b ∧ w.heap.size ≤ g ∧ w.heap.size ≤ b) := ⟨by omega, by omega, by omega⟩
  have HW := Lib.hid hw0
  have HBB := Lib.hid hb
  have HGG := Lib.hid hg
  clear hw0 hb hg
  go_enter Try.func22, Try.ntmps22
  go_wp2_with fail
  rw [← HW.out, ← HBB.out, ← HGG.out]
  refine (HAL.out w0 HT0.out).mono ?_
  rintro e w1 ⟨sl, rfl, hr, hw⟩
  replace hw := hw.symm
  subst hw
  obtain ⟨A, c, rfl⟩ := hr.shape
  have HV := Lib.hid hr
  clear hr HW HBB HGG HAL
  go_wp2_with fail
  go_loopw [12] (fun x12 wr => ∃ (i : Nat) (d : Cl), x12 = .int .i64 (i : Int) ∧ i ≤ L.length ∧ totalR Cl.zero (L.take i) = some d ∧ okC d ∧ Box wr b 47 (ca d) ∧ Box wr g 47 (ca Cl.zero) ∧ RdE ER wr (.slice A L.length c) L ∧ Turn (fun _ => False) w wr) (fun x12 _ => L.length - (intOf x12).toNat)
  case atStart => exact ⟨0, Cl.zero, rfl, Nat.zero_le _, rfl, okC_zero, HB0.out, HG0.out, HV.out, HT0.out⟩
  case round =>
    clear HB0 HG0 HT0 HV
    obtain ⟨i, ⟨n, s, lo, hi'⟩, rfl, hi, htt, hkd, hbx, hgx, hv, ht⟩ := hrel
    have HTT := Lib.hid htt
    have HKD := Lib.hid hkd
    have HBX := Lib.hid hbx
    have HGX := Lib.hid hgx
    have HT := Lib.hid ht
    have HV := Lib.hid hv
    clear htt hkd hbx hgx ht hv
    by_cases hlt : i < L.length
    · obtain ⟨r, hr⟩ : ∃ r, L[i]? = some r := ⟨_, List.getElem?_eq_getElem hlt⟩
      obtain ⟨ad, rfl, hc⟩ := row_at11 HV.out hr
      have HOR : Hid (okC r.c) := HOK.out r (List.mem_of_getElem? hr)
      have HST : Hid (totalR Cl.zero (L.take (i + 1)) = mergeC ⟨n, s, lo, hi'⟩ r.c) := by
        show _ = _
        rw [totalR_take hr, HTT.out]
        rfl
      have HM : Hid (∀ W, Calls Try.prog 29 #[.agg #[.int .i64 n, .int .i64 s, .int .i64 lo, .int .i64 hi'], .agg #[.int .i64 r.c.n, .int .i64 r.c.s, .int .i64 r.c.lo, .int .i64 r.c.hi]] W fun e w' => e = .returned (outC (mergeC ⟨n, s, lo, hi'⟩ r.c)) ∧ Turn (fun _ => False) W w') := fun W => merge_any n s lo hi' r.c.n r.c.s r.c.lo r.c.hi W HKD HOR
      have HOM : Hid (∀ d, mergeC ⟨n, s, lo, hi'⟩ r.c = some d → okC d) := fun d h => okC_merge HKD.out HOR.out h
      generalize mergeC ⟨n, s, lo, hi'⟩ r.c = o at *
      obtain ⟨n2, s2, lo2, hi2, ho2, hg2⟩ := outC_shape o
      rw [ho2] at HM
      have HG2 := Lib.hid hg2
      obtain ⟨bb, hbb⟩ : ∃ bb, bb = o.isSome := ⟨_, rfl⟩
      rw [← hbb] at HM
      have HBS := Lib.hid hbb
      have hil : (i : Int) < L.length := by omega
      obtain ⟨a0, a1, a2, a3, a4, a5, a6, a7, a8⟩ := hc wr (Turn.refl _ _)
      have HNB : Hid (ad.block ≠ b) := fun e => by
        have h1 := a8
        rw [eadd_block, e, HBX.out.cell] at h1
        have h2 : (ca ⟨n, s, lo, hi'⟩)[(ad.add (i * 9)).off + 8]? = none := Array.getElem?_eq_none (by show 4 ≤ _; omega)
        rw [h2] at h1
        cases h1
      have hbw := HBX.out.alloc (.cells (cells11 r) 51)
      obtain ⟨⟨b0, b1, b2, b3⟩, _⟩ := box_cells hbw
      have HTR : Hid (Turn (fun _ => False) wr (wr.alloc (.cells (cells11 r) 51))) := (Turn.refl _ wr).alloc _
      clear hc hr ho2 hg2 hbb hbw
      go_wp2_with fail
      refine (HM.out _).mono ?_
      rintro e w3 ⟨rfl, t3⟩
      have HT3 : Hid (Turn (fun _ => False) wr (w3.alloc (.cells #[.int .i64 n2, .int .i64 s2, .int .i64 lo2, .int .i64 hi2] 47))) := (HTR.out.trans t3 (fun _ _ f => f)).alloc _
      have hb3 := HBX.out.turn HT3.out (fun f => f)
      have hg3 := HGX.out.turn HT3.out (fun f => f)
      have HB3 := Lib.hid hb3; have HG3 := Lib.hid hg3
      cases o with
      | none =>
        have eb : bb = false := HBS.out
        subst eb
        have HE : Hid (totalR Cl.zero L = none) := totalR_none HST.out
        obtain ⟨⟨c0, c1, c2, c3⟩, ⟨f0, f1, f2, f3⟩⟩ := box_cells hg3
        clear hb3 hg3 t3 a0 a1 a2 a3 a4 a5 a6 a7 a8 b0 b1 b2 b3
        go_wp2
        refine bodyPost_ret (v := .tuple #[.agg #[.int .i64 0, .int .i64 0, .int .i64 0, .int .i64 0], .bool false]) ?_ rfl ⟨by rw [HE.out]; rfl, turn_set4 (HT.out.trans HT3.out (fun _ _ f => f)) (fun e => absurd e (by have := HNE.out.2.1; omega))⟩
        rw [results_cell_tmp rfl]
        go_simp
      | some d =>
        have eb : bb = true := HBS.out
        subst eb
        have ed : d = ⟨n2, s2, lo2, hi2⟩ := HG2.out
        subst ed
        obtain ⟨⟨c0, c1, c2, c3⟩, ⟨f0, f1, f2, f3⟩⟩ := box_cells hb3
        clear hb3 hg3 t3 a0 a1 a2 a3 a4 a5 a6 a7 a8 b0 b1 b2 b3
        go_wp2
        go_roundw
        case rel => exact ⟨i + 1, ⟨n2, s2, lo2, hi2⟩, by go_num, hlt, HST.out, HOM.out _ rfl, box_set4 HB3.out, HG3.out.turn (turn_set4 (S := fun k => k = b) (Turn.refl _ _) (fun _ => rfl)) (fun e => HNE.out.1 e), (HV.out.later HT3.out).turn (turn_set4 (S := fun k => k = b) (Turn.refl _ _) (fun _ => rfl)) (fun k hk e => HNB.out ((show ad.block = k by simpa [Value.ownBlock] using hk).trans e)), turn_set4 (HT.out.trans HT3.out (fun _ _ f => f)) (fun e => absurd e (by have := HNE.out.2.2; omega))⟩
        case measure => simp [intOf]; omega
    · obtain rfl : i = L.length := by omega
      have HE : Hid (totalR Cl.zero L = some ⟨n, s, lo, hi'⟩) := by have h := HTT.out; rwa [List.take_length] at h
      obtain ⟨⟨c0, c1, c2, c3⟩, _⟩ := box_cells HBX.out
      obtain ⟨⟨d0, d1, d2, d3⟩, ⟨f0, f1, f2, f3⟩⟩ := box_cells HGX.out
      go_wp2
      refine bodyPost_ret (v := .tuple #[.agg #[.int .i64 n, .int .i64 s, .int .i64 lo, .int .i64 hi'], .bool true]) ?_ rfl ⟨by rw [HE.out]; rfl, turn_set4 HT.out (fun e => absurd e (by have := HNE.out.2.1; omega))⟩
      rw [results_cell_tmp rfl]
      go_simp

end Go.Proofs.Ytnnlgeldjjknmaa

/-
  Stage 11: the program's Rows; a row of rows copied.
-/
namespace Go.Proofs.Ytnnlgeldjjknmaa
open Go.RowKit Go.ChangeShapes Go.WideShapes Go.Deep

set_option maxRecDepth 100000

/-- Behind a row that was copied. -/
def Copied11 (w : World) (l : List R11) (e : Ending) (w' : World) : Prop := ∃ v, e = .returned v ∧ NewE ER 51 w w' v l

set_option maxHeartbeats 2000000 in
theorem clone11 (sv : Value) (l : List R11) (w : World) (h : RdE ER w sv l) (hl : l.length ≤ 1000000) :
    Calls Try.prog 37 #[sv] w fun e w' => Copied11 w l e w' := by
  have HH := Lib.hid h
  obtain ⟨A, c, rfl⟩ := h.shape
  have hf := h.fits
  clear h
  cases A with
  | none =>
    obtain ⟨rfl, rfl⟩ := hf.2.2.2 rfl
    clear hf
    simp only [List.length_nil] at HH ⊢
    go_enter Try.func37, Try.ntmps37
    have hrun : ∀ W, Sem.run Try.prog (binOp .eql 23 (.slice none 0 0) (.slice none 0 0)) W = .ok (.bool true) W := fun W => Lib.run_eql_slice_nil W _ _ none 0 0 0 0 Try.underlying23
    go_wp2
    go_ret
    exact ⟨_, rfl, OwE.nil _, (fun k e => by simp [Value.ownBlock] at e), Turn.refl _ w⟩
  | some ad =>
    clear hf
    have HN0 := Lib.hid (NewE.empty (E := ER) (e := 51) w w (Turn.refl _ w))
    have HS := Lib.hid (HH.out.later HN0.out.turn)
    go_enter Try.func37, Try.ntmps37
    have hrun : ∀ W, Sem.run Try.prog (binOp .eql 23 (.slice (some ad) l.length c) (.slice none 0 0)) W = .ok (.bool false) W := fun W => Lib.run_eql_slice_nil W _ _ (some ad) l.length c 0 0 Try.underlying23
    go_wp2_with (at_builtin; refine wpList_rows11 _ rfl _ _ rfl _ [] rfl HN0.out.own _ rfl l HS.out (by simp only [List.length_nil]; omega) ?_; intro A3 n3 c3 w3 ho ht hn; have HN3 := Lib.hid (HN0.out.step ho ht hn); clear ho ht hn)
    go_ret
    exact ⟨_, rfl, HN3.out⟩

theorem okRow_eq (r : R11) : okRow r = (!(r.c.n == 0) && rightC r.c) := by
  unfold okRow
  by_cases h : r.c.n = 0
  · have : (r.c.n == 0) = true := beq_iff_eq.2 h
    rw [this, decide_eq_false (by omega)]
    rfl
  · have e : (r.c.n == 0) = false := beq_eq_false_iff_ne.2 h
    rw [e, Bool.not_false, Bool.true_and]
    cases hr : rightC r.c with
    | false => rw [Bool.and_false]
    | true =>
      have : 1 ≤ r.c.n := by
        unfold rightC at hr
        rw [if_neg h] at hr
        simp only [Bool.and_eq_true, decide_eq_true_iff] at hr
        omega
      rw [decide_eq_true this]
      rfl

set_option maxHeartbeats 8000000 in
theorem rows_any11 (v : Value) (l : List R11) (w : World) (hv : RdE ER w v l) (hok : ∀ r ∈ l, okC r.c) (hl : l.length ≤ 1000) : Calls Try.prog 15 #[v] w fun e w' => RowsA11 w l e w' := by
  have HV := Lib.hid hv
  have HOK := Lib.hid hok
  obtain ⟨A, c, rfl⟩ := hv.shape
  clear hv hok
  go_enter Try.func15, Try.ntmps15
  go_wp2_with fail
  go_loopw [8] (fun x8 wr => ∃ i : Nat, x8 = .int .i64 (i : Int) ∧ i ≤ l.length ∧ (∀ k, k < i → rightAt l k = true) ∧ Turn (fun _ => False) w wr) (fun x8 _ => l.length - (intOf x8).toNat)
  case atStart => exact ⟨0, rfl, Nat.zero_le _, fun k hk => absurd hk (Nat.not_lt_zero k), Turn.refl _ w⟩
  case round =>
    obtain ⟨i, rfl, hi, hok, ht⟩ := hrel
    have HOI := Lib.hid hok
    have HT := Lib.hid ht
    clear hok ht
    by_cases hlt : i < l.length
    · obtain ⟨r, hr⟩ : ∃ r, l[i]? = some r := ⟨_, List.getElem?_eq_getElem hlt⟩
      obtain ⟨ad, rfl, hc⟩ := row_at11 HV.out hr
      obtain ⟨a0, a1, a2, a3, a4, a5, a6, a7, a8⟩ := hc wr HT.out
      have HNX : Hid (rightAt l i = true → ∀ k, k < i + 1 → rightAt l k = true) := fun h k hk => by
        by_cases e : k = i
        · rw [e]; exact h
        · exact HOI.out k (by omega)
      have HNO : Hid (rightAt l i = false → rightR l = false) := fun h => rightR_not h
      have hil : (i : Int) < l.length := by omega
      have HRO := Lib.hid (okRow_eq r)
      have HLO : Hid (okRow r = false → rightAt l i = false) := fun h => by
        unfold rightAt
        rw [hr]
        dsimp only
        rw [h, Bool.and_false]
      obtain ⟨w3, hw3⟩ : ∃ w3, w3 = wr.alloc (.cells (cells11 r) 51) := ⟨_, rfl⟩
      obtain ⟨g, hg⟩ : ∃ g, g = wr.heap.size := ⟨_, rfl⟩
      have HT3 : Hid (Turn (fun _ => False) w w3) := by rw [hw3]; exact HT.out.alloc _
      have HB3 : Hid (Box w3 g 51 (cells11 r)) := by rw [hw3, hg]; exact Box.new wr _ _
      have HCR : Hid (∀ W, Calls Try.prog 36 #[.agg #[.int .i64 r.c.n, .int .i64 r.c.s, .int .i64 r.c.lo, .int .i64 r.c.hi]] W fun e w' => e = .returned (.bool (rightC r.c)) ∧ Turn (fun _ => False) W w') := fun W => right_any r.c.n r.c.s r.c.lo r.c.hi W
      have HW3 := Lib.hid hw3; have HGG := Lib.hid hg
      clear hw3 hg
      by_cases hz : r.c.n = 0
      · have hzb : (r.c.n == 0) = true := beq_iff_eq.2 hz
        have HF : Hid (rightR l = false) := HNO.out (HLO.out (by rw [HRO.out, hzb]; rfl))
        have HE := Lib.hid (HT.out.alloc (.cells (cells11 r) 51))
        clear hc hr hz
        go_wp2
        go_ret2
        refine ⟨.pointer none, by rw [HF.out]; rfl, by rw [HF.out]; exact SV11.nil _, fun _ => rfl, HE.out⟩
      · have hzb : (r.c.n == 0) = false := beq_eq_false_iff_ne.2 hz
        clear hz
        cases hrc : rightC r.c with
        | false =>
          have HF : Hid (rightR l = false) := HNO.out (HLO.out (by rw [HRO.out, hrc, Bool.and_false]))
          rw [hrc] at HCR
          clear hc hr hrc
          go_wp2_with fail
          refine (HCR.out _).mono ?_
          rintro e w4 ⟨rfl, t4⟩
          have HE := Lib.hid ((HT.out.alloc (.cells (cells11 r) 51)).trans t4 (fun _ _ f => f))
          clear t4
          go_wp2
          go_ret2
          refine ⟨.pointer none, by rw [HF.out]; rfl, by rw [HF.out]; exact SV11.nil _, fun _ => rfl, HE.out⟩
        | true =>
          have HOR : Hid (okRow r = true) := by show _ = _; rw [HRO.out, hzb, hrc]; rfl
          rw [hrc] at HCR
          clear hrc
          go_wp2_with fail
          refine (HCR.out _).mono ?_
          rintro e w4 ⟨rfl, t4⟩
          have HT4 : Hid (Turn (fun _ => False) w3 w4) := by rw [HW3.out]; exact t4
          have HTW : Hid (Turn (fun _ => False) w w4) := HT3.out.trans HT4.out (fun _ _ f => f)
          have HBR : Hid (∀ W, Turn (fun _ => False) w4 W → Box W g 51 (cells11 r)) := fun W ht => (HB3.out.turn HT4.out (fun f => f)).turn ht (fun f => f)
          have HRV : Hid (RdE ER w4 (.slice (some ad) l.length c) l) := HV.out.later HTW.out
          clear t4 a0 a1 a2 a3 a4 a5 a6 a7 a8 hc HT3 HB3
          by_cases hpos : 0 < i
          · obtain ⟨q, hq⟩ : ∃ q, i = q + 1 := ⟨i - 1, by omega⟩
            obtain ⟨p, hp⟩ : ∃ p, l[q]? = some p := ⟨_, List.getElem?_eq_getElem (by omega)⟩
            obtain ⟨_, g2, hcp⟩ := row_at11 HRV.out hp
            cases g2
            have HPW : Hid (∀ W, Turn (fun _ => False) w4 W → RowAt W (ad.add (q * 9)) p) := fun W ht => hcp W ht
            unfold RowAt at HPW
            have hat : rightAt l i = (keyLt p.k r.k && okRow r) := by subst hq; exact rightAt_succ hr hp
            rw [HOR.out, Bool.and_true] at hat
            have hsub : IntKind.i64.wrap ((i : Int) - 1) = (q : Int) := by rw [hq, IntKind.wrap_i64]; omega
            have hql : (q : Int) < l.length := by omega
            have hpi : (0 : Int) < (i : Int) := by omega
            have HCM : Hid (∀ W, Calls Try.prog 33 #[.agg #[.int .i64 p.k.h, sv9 p.k.a, sv9 p.k.b, sv9 p.k.c, sv9 p.k.d], .agg #[.int .i64 r.k.h, sv9 r.k.a, sv9 r.k.b, sv9 r.k.c, sv9 r.k.d]] W fun e w' => e = .returned (.int .i64 (cmpK p.k r.k)) ∧ Turn (fun _ => False) W w') := fun W => compare_any9 p.k r.k W
            have hcg := cmpK_ge (p := p.k) (q := r.k)
            generalize cmpK p.k r.k = cm at *
            have HAT := Lib.hid hat
            clear hr hp hcp hat hq
            rcases hcg with ⟨hk, hneg⟩ | ⟨hk, hneg⟩
            · have HA : Hid (rightAt l i = true) := by show _ = _; rw [HAT.out, hk]
              have hn0 : ¬ (0 ≤ cm) := by omega
              clear hk
              go_wp2_with fail
              rw [← HGG.out]
              refine drawn_region (fun W => Turn (fun _ => False) w4 W) [] (by kernel_rfl) ?_
              have hS0 : Turn (fun _ => False) w4 (World.drew w4) := (Turn.refl _ w4).drew
              generalize World.drew w4 = wd at *
              refine drawn_take 0 23 (.int .i64 (i : Int)) rfl rfl (by kernel_rfl) (by kernel_rfl) (by kernel_rfl) (by kernel_rfl) (fun _ _ _ h => h) (by rfl) (by assumption) (by intro w hSw; obtain hS1 := hSw; go_simp) ?_
              try simp only [List.setIfInBounds_toArray, List.set_cons_zero, List.set_cons_succ]
              refine drawn_take 1 24 (.bool true) rfl rfl (by kernel_rfl) (by kernel_rfl) (by kernel_rfl) (by kernel_rfl) (fun _ _ _ h => h) (by rfl) (by assumption) (by intro w hSw; obtain hS1 := hSw; go_simp) ?_
              try simp only [List.setIfInBounds_toArray, List.set_cons_zero, List.set_cons_succ]
              refine drawn_take 2 25 (.bool true) rfl rfl (by kernel_rfl) (by kernel_rfl) (by kernel_rfl) (by kernel_rfl) (fun _ _ _ h => h) (by rfl) (by assumption) (by intro w hSw; obtain hS1 := hSw; go_simp) ?_
              try simp only [List.setIfInBounds_toArray, List.set_cons_zero, List.set_cons_succ]
              refine drawn_take 3 26 (.slice (some ad) l.length c) rfl rfl (by kernel_rfl) (by kernel_rfl) (by kernel_rfl) (by kernel_rfl) (fun _ _ _ h => h) (by rfl) (by assumption) (by intro w hSw; obtain hS1 := hSw; go_simp) ?_
              try simp only [List.setIfInBounds_toArray, List.set_cons_zero, List.set_cons_succ]
              refine drawn_take 4 27 (.int .i64 (i : Int)) rfl rfl (by kernel_rfl) (by kernel_rfl) (by kernel_rfl) (by kernel_rfl) (fun _ _ _ h => h) (by rfl) (by assumption) (by intro w hSw; obtain hS1 := hSw; go_simp) ?_
              try simp only [List.setIfInBounds_toArray, List.set_cons_zero, List.set_cons_succ]
              refine drawn_take 5 28 (.int .i64 (q : Int)) rfl rfl (by kernel_rfl) (by kernel_rfl) (by kernel_rfl) (by kernel_rfl) (fun _ _ _ h => h) (by rfl) (by assumption) (by intro w hSw; obtain hS1 := hSw; go_simp) ?_
              try simp only [List.setIfInBounds_toArray, List.set_cons_zero, List.set_cons_succ]
              refine drawn_take 6 29 (.pointer (some (ad.add (q * 9)))) rfl rfl (by kernel_rfl) (by kernel_rfl) (by kernel_rfl) (by kernel_rfl) (fun _ _ _ h => h) (by rfl) (by assumption) (by intro w hSw; obtain hS1 := hSw; go_simp) ?_
              try simp only [List.setIfInBounds_toArray, List.set_cons_zero, List.set_cons_succ]
              refine drawn_take 7 30 (.pointer (some (ad.add (q * 9)))) rfl rfl (by kernel_rfl) (by kernel_rfl) (by kernel_rfl) (by kernel_rfl) (fun _ _ _ h => h) (by rfl) (by assumption) (by intro w hSw; obtain hS1 := hSw; go_simp) ?_
              try simp only [List.setIfInBounds_toArray, List.set_cons_zero, List.set_cons_succ]
              refine drawn_take 8 31 (.agg #[.int .i64 p.k.h, sv9 p.k.a, sv9 p.k.b, sv9 p.k.c, sv9 p.k.d]) rfl rfl (by kernel_rfl) (by kernel_rfl) (by kernel_rfl) (by kernel_rfl) (fun _ _ _ h => h) (by rfl) (by assumption) (by intro w hSw; obtain ⟨a0, a1, a2, a3, a4, a5, a6, a7, a8⟩ := HPW.out w hSw; clear hSw; go_simp) ?_
              try simp only [List.setIfInBounds_toArray, List.set_cons_zero, List.set_cons_succ]
              refine drawn_take 9 32 (.pointer (some ⟨g, 0, none⟩)) rfl rfl (by kernel_rfl) (by kernel_rfl) (by kernel_rfl) (by kernel_rfl) (fun _ _ _ h => h) (by rfl) (by assumption) (by intro w hSw; obtain hS1 := hSw; go_simp) ?_
              try simp only [List.setIfInBounds_toArray, List.set_cons_zero, List.set_cons_succ]
              refine drawn_take 10 33 (.agg #[.int .i64 r.k.h, sv9 r.k.a, sv9 r.k.b, sv9 r.k.c, sv9 r.k.d]) rfl rfl (by kernel_rfl) (by kernel_rfl) (by kernel_rfl) (by kernel_rfl) (fun _ _ _ h => h) (by rfl) (by assumption) (by intro w hSw; have hb := HBR.out w hSw; have a0 := hb.cell 0; have a1 := hb.cell 1; have a2 := hb.cell 2; have a3 := hb.cell 3; have a4 := hb.cell 4; clear hSw hb; go_simp) ?_
              try simp only [List.setIfInBounds_toArray, List.set_cons_zero, List.set_cons_succ]
              refine drawn_any [11] (by kernel_rfl) (by simp) ?_
              refine drawn_cons rfl (fun K hK => ?_) drawn_nil
              go_simp
              refine (HCM.out _).mono ?_
              rintro e w5 ⟨rfl, t5⟩
              have hS4 := hS0.trans t5 (fun _ _ f => f)
              refine hK.out _ _ _ hS4 ?_
              clear hK K t5 hS0
              have hS0 := hS4
              clear hS4
              try simp only [List.setIfInBounds_toArray, List.set_cons_zero, List.set_cons_succ]
              refine drawn_take 12 35 (.bool false) rfl rfl (by kernel_rfl) (by kernel_rfl) (by kernel_rfl) (by kernel_rfl) (fun _ _ _ h => h) (by rfl) (by assumption) (by intro w hSw; obtain hS1 := hSw; go_simp) ?_
              try simp only [List.setIfInBounds_toArray, List.set_cons_zero, List.set_cons_succ]
              refine drawn_last1 13 36 (.bool false) rfl rfl (by kernel_rfl) (by kernel_rfl) (by rfl) (by intro w; go_simp) hS0 ?_
              try simp only [List.setIfInBounds_toArray, List.set_cons_zero, List.set_cons_succ]
              have HE := Lib.hid (HTW.out.trans hS0 (fun _ _ f => f))
              clear hS0
              go_wp2
              go_roundw
              case rel => exact ⟨i + 1, by go_num, hlt, HNX.out HA.out, HE.out⟩
              case measure => simp [intOf]; omega
            · have HF : Hid (rightR l = false) := HNO.out (by rw [HAT.out, hk])
              clear hk
              go_wp2_with fail
              rw [← HGG.out]
              refine drawn_region (fun W => Turn (fun _ => False) w4 W) [] (by kernel_rfl) ?_
              have hS0 : Turn (fun _ => False) w4 (World.drew w4) := (Turn.refl _ w4).drew
              generalize World.drew w4 = wd at *
              refine drawn_take 0 23 (.int .i64 (i : Int)) rfl rfl (by kernel_rfl) (by kernel_rfl) (by kernel_rfl) (by kernel_rfl) (fun _ _ _ h => h) (by rfl) (by assumption) (by intro w hSw; obtain hS1 := hSw; go_simp) ?_
              try simp only [List.setIfInBounds_toArray, List.set_cons_zero, List.set_cons_succ]
              refine drawn_take 1 24 (.bool true) rfl rfl (by kernel_rfl) (by kernel_rfl) (by kernel_rfl) (by kernel_rfl) (fun _ _ _ h => h) (by rfl) (by assumption) (by intro w hSw; obtain hS1 := hSw; go_simp) ?_
              try simp only [List.setIfInBounds_toArray, List.set_cons_zero, List.set_cons_succ]
              refine drawn_take 2 25 (.bool true) rfl rfl (by kernel_rfl) (by kernel_rfl) (by kernel_rfl) (by kernel_rfl) (fun _ _ _ h => h) (by rfl) (by assumption) (by intro w hSw; obtain hS1 := hSw; go_simp) ?_
              try simp only [List.setIfInBounds_toArray, List.set_cons_zero, List.set_cons_succ]
              refine drawn_take 3 26 (.slice (some ad) l.length c) rfl rfl (by kernel_rfl) (by kernel_rfl) (by kernel_rfl) (by kernel_rfl) (fun _ _ _ h => h) (by rfl) (by assumption) (by intro w hSw; obtain hS1 := hSw; go_simp) ?_
              try simp only [List.setIfInBounds_toArray, List.set_cons_zero, List.set_cons_succ]
              refine drawn_take 4 27 (.int .i64 (i : Int)) rfl rfl (by kernel_rfl) (by kernel_rfl) (by kernel_rfl) (by kernel_rfl) (fun _ _ _ h => h) (by rfl) (by assumption) (by intro w hSw; obtain hS1 := hSw; go_simp) ?_
              try simp only [List.setIfInBounds_toArray, List.set_cons_zero, List.set_cons_succ]
              refine drawn_take 5 28 (.int .i64 (q : Int)) rfl rfl (by kernel_rfl) (by kernel_rfl) (by kernel_rfl) (by kernel_rfl) (fun _ _ _ h => h) (by rfl) (by assumption) (by intro w hSw; obtain hS1 := hSw; go_simp) ?_
              try simp only [List.setIfInBounds_toArray, List.set_cons_zero, List.set_cons_succ]
              refine drawn_take 6 29 (.pointer (some (ad.add (q * 9)))) rfl rfl (by kernel_rfl) (by kernel_rfl) (by kernel_rfl) (by kernel_rfl) (fun _ _ _ h => h) (by rfl) (by assumption) (by intro w hSw; obtain hS1 := hSw; go_simp) ?_
              try simp only [List.setIfInBounds_toArray, List.set_cons_zero, List.set_cons_succ]
              refine drawn_take 7 30 (.pointer (some (ad.add (q * 9)))) rfl rfl (by kernel_rfl) (by kernel_rfl) (by kernel_rfl) (by kernel_rfl) (fun _ _ _ h => h) (by rfl) (by assumption) (by intro w hSw; obtain hS1 := hSw; go_simp) ?_
              try simp only [List.setIfInBounds_toArray, List.set_cons_zero, List.set_cons_succ]
              refine drawn_take 8 31 (.agg #[.int .i64 p.k.h, sv9 p.k.a, sv9 p.k.b, sv9 p.k.c, sv9 p.k.d]) rfl rfl (by kernel_rfl) (by kernel_rfl) (by kernel_rfl) (by kernel_rfl) (fun _ _ _ h => h) (by rfl) (by assumption) (by intro w hSw; obtain ⟨a0, a1, a2, a3, a4, a5, a6, a7, a8⟩ := HPW.out w hSw; clear hSw; go_simp) ?_
              try simp only [List.setIfInBounds_toArray, List.set_cons_zero, List.set_cons_succ]
              refine drawn_take 9 32 (.pointer (some ⟨g, 0, none⟩)) rfl rfl (by kernel_rfl) (by kernel_rfl) (by kernel_rfl) (by kernel_rfl) (fun _ _ _ h => h) (by rfl) (by assumption) (by intro w hSw; obtain hS1 := hSw; go_simp) ?_
              try simp only [List.setIfInBounds_toArray, List.set_cons_zero, List.set_cons_succ]
              refine drawn_take 10 33 (.agg #[.int .i64 r.k.h, sv9 r.k.a, sv9 r.k.b, sv9 r.k.c, sv9 r.k.d]) rfl rfl (by kernel_rfl) (by kernel_rfl) (by kernel_rfl) (by kernel_rfl) (fun _ _ _ h => h) (by rfl) (by assumption) (by intro w hSw; have hb := HBR.out w hSw; have a0 := hb.cell 0; have a1 := hb.cell 1; have a2 := hb.cell 2; have a3 := hb.cell 3; have a4 := hb.cell 4; clear hSw hb; go_simp) ?_
              try simp only [List.setIfInBounds_toArray, List.set_cons_zero, List.set_cons_succ]
              refine drawn_any [11] (by kernel_rfl) (by simp) ?_
              refine drawn_cons rfl (fun K hK => ?_) drawn_nil
              go_simp
              refine (HCM.out _).mono ?_
              rintro e w5 ⟨rfl, t5⟩
              have hS4 := hS0.trans t5 (fun _ _ f => f)
              refine hK.out _ _ _ hS4 ?_
              clear hK K t5 hS0
              have hS0 := hS4
              clear hS4
              try simp only [List.setIfInBounds_toArray, List.set_cons_zero, List.set_cons_succ]
              refine drawn_take 12 35 (.bool true) rfl rfl (by kernel_rfl) (by kernel_rfl) (by kernel_rfl) (by kernel_rfl) (fun _ _ _ h => h) (by rfl) (by assumption) (by intro w hSw; obtain hS1 := hSw; go_simp) ?_
              try simp only [List.setIfInBounds_toArray, List.set_cons_zero, List.set_cons_succ]
              refine drawn_last1 13 36 (.bool true) rfl rfl (by kernel_rfl) (by kernel_rfl) (by rfl) (by intro w; go_simp) hS0 ?_
              try simp only [List.setIfInBounds_toArray, List.set_cons_zero, List.set_cons_succ]
              have HE := Lib.hid (HTW.out.trans hS0 (fun _ _ f => f))
              clear hS0
              go_wp2
              go_ret2
              refine ⟨.pointer none, by rw [HF.out]; rfl, by rw [HF.out]; exact SV11.nil _, fun _ => rfl, HE.out⟩
          · have HA : Hid (rightAt l i = true) := by
              obtain rfl : i = 0 := by omega
              show _ = _
              rw [rightAt_zero hr, HOR.out]
            have hpi : ¬ (0 : Int) < (i : Int) := by omega
            clear hr
            go_wp2_with fail
            rw [← HGG.out]
            refine drawn_region (fun W => Turn (fun _ => False) w4 W) [] (by kernel_rfl) ?_
            have hS0 : Turn (fun _ => False) w4 (World.drew w4) := (Turn.refl _ w4).drew
            generalize World.drew w4 = wd at *
            refine drawn_take 0 23 (.int .i64 (i : Int)) rfl rfl (by kernel_rfl) (by kernel_rfl) (by kernel_rfl) (by kernel_rfl) (fun _ _ _ h => h) (by rfl) (by assumption) (by intro w hSw; obtain hS1 := hSw; go_simp) ?_
            try simp only [List.setIfInBounds_toArray, List.set_cons_zero, List.set_cons_succ]
            refine drawn_take 1 24 (.bool false) rfl rfl (by kernel_rfl) (by kernel_rfl) (by kernel_rfl) (by kernel_rfl) (fun _ _ _ h => h) (by rfl) (by assumption) (by intro w hSw; obtain hS1 := hSw; go_simp) ?_
            try simp only [List.setIfInBounds_toArray, List.set_cons_zero, List.set_cons_succ]
            refine drawn_take 2 25 (.bool false) rfl rfl (by kernel_rfl) (by kernel_rfl) (by kernel_rfl) (by kernel_rfl) (fun _ _ _ h => h) (by rfl) (by assumption) (by intro w hSw; obtain hS1 := hSw; go_simp) ?_
            try simp only [List.setIfInBounds_toArray, List.set_cons_zero, List.set_cons_succ]
            refine drawn_skip 3 26 rfl rfl (by kernel_rfl) (by kernel_rfl) (by kernel_rfl) (by kernel_rfl) (fun _ _ _ h => h) (by rfl) (fun _ => by assumption) ?_
            try simp only [List.setIfInBounds_toArray, List.set_cons_zero, List.set_cons_succ]
            refine drawn_skip 4 27 rfl rfl (by kernel_rfl) (by kernel_rfl) (by kernel_rfl) (by kernel_rfl) (fun _ _ _ h => h) (by rfl) (fun _ => by assumption) ?_
            try simp only [List.setIfInBounds_toArray, List.set_cons_zero, List.set_cons_succ]
            refine drawn_skip 5 28 rfl rfl (by kernel_rfl) (by kernel_rfl) (by kernel_rfl) (by kernel_rfl) (fun _ _ _ h => h) (by rfl) (fun _ => by assumption) ?_
            try simp only [List.setIfInBounds_toArray, List.set_cons_zero, List.set_cons_succ]
            refine drawn_skip 6 29 rfl rfl (by kernel_rfl) (by kernel_rfl) (by kernel_rfl) (by kernel_rfl) (fun _ _ _ h => h) (by rfl) (fun _ => by assumption) ?_
            try simp only [List.setIfInBounds_toArray, List.set_cons_zero, List.set_cons_succ]
            refine drawn_skip 7 30 rfl rfl (by kernel_rfl) (by kernel_rfl) (by kernel_rfl) (by kernel_rfl) (fun _ _ _ h => h) (by rfl) (fun _ => by assumption) ?_
            try simp only [List.setIfInBounds_toArray, List.set_cons_zero, List.set_cons_succ]
            refine drawn_skip 8 31 rfl rfl (by kernel_rfl) (by kernel_rfl) (by kernel_rfl) (by kernel_rfl) (fun _ _ _ h => h) (by rfl) (fun _ => by assumption) ?_
            try simp only [List.setIfInBounds_toArray, List.set_cons_zero, List.set_cons_succ]
            refine drawn_skip 9 32 rfl rfl (by kernel_rfl) (by kernel_rfl) (by kernel_rfl) (by kernel_rfl) (fun _ _ _ h => h) (by rfl) (fun _ => by assumption) ?_
            try simp only [List.setIfInBounds_toArray, List.set_cons_zero, List.set_cons_succ]
            refine drawn_skip 10 33 rfl rfl (by kernel_rfl) (by kernel_rfl) (by kernel_rfl) (by kernel_rfl) (fun _ _ _ h => h) (by rfl) (fun _ => by assumption) ?_
            try simp only [List.setIfInBounds_toArray, List.set_cons_zero, List.set_cons_succ]
            refine drawn_skip 11 34 rfl rfl (by kernel_rfl) (by kernel_rfl) (by kernel_rfl) (by kernel_rfl) (fun _ _ _ h => h) (by rfl) (fun _ => by assumption) ?_
            try simp only [List.setIfInBounds_toArray, List.set_cons_zero, List.set_cons_succ]
            refine drawn_skip 12 35 rfl rfl (by kernel_rfl) (by kernel_rfl) (by kernel_rfl) (by kernel_rfl) (fun _ _ _ h => h) (by rfl) (fun _ => by assumption) ?_
            try simp only [List.setIfInBounds_toArray, List.set_cons_zero, List.set_cons_succ]
            refine drawn_last1 13 36 (.bool false) rfl rfl (by kernel_rfl) (by kernel_rfl) (by rfl) (by intro w; go_simp) hS0 ?_
            try simp only [List.setIfInBounds_toArray, List.set_cons_zero, List.set_cons_succ]
            have HE := Lib.hid (HTW.out.trans hS0 (fun _ _ f => f))
            clear hS0
            go_wp2
            go_roundw
            case rel => exact ⟨i + 1, by go_num, hlt, HNX.out HA.out, HE.out⟩
            case measure => simp [intOf]; omega
    · obtain rfl : i = l.length := by omega
      have HY : Hid (rightR l = true) := rightR_yes HOI.out
      have HOK2 : Hid (rightR l = true ∧ (∀ r ∈ l, okC r.c) ∧ l.length ≤ 1000) := ⟨HY.out, HOK.out, hl⟩
      have HC := Lib.hid (clone11 _ l wr (HV.out.later HT.out) (by omega))
      go_wp2_with fail
      refine HC.out.mono ?_
      rintro e w4 ⟨sv, rfl, hn⟩
      have HN := Lib.hid hn
      obtain ⟨A2, c2, rfl⟩ := hn.own.shape
      clear hn HC
      go_wp2
      go_ret2
      exact ⟨_, by rw [HY.out]; rfl, by rw [HY.out]; exact SV11.new HN.out.own.rd HOK2.out, (fun e => by rw [HY.out] at e; cases e), (HT.out.trans HN.out.turn (fun _ _ f => f)).alloc _⟩

end Go.Proofs.Ytnnlgeldjjknmaa

/-
  Stage 11: the program's both: two lists of rows laid into one.
-/
namespace Go.Proofs.Ytnnlgeldjjknmaa
open Go.RowKit

set_option maxRecDepth 100000

theorem made_rows11 (N : Nat) (hN : N ≤ 1000000) (w : World) : (Instr.makeSlice 23 (.int .i64 0) (.int .i64 (N : Int))).run Try.prog w = .ok (.slice (some ⟨w.heap.size, 0, none⟩) 0 N) (w.alloc (.cells (madeCells (Value.cells zv11) (N * 9)) 51)) := by
  obtain ⟨i, hi, hz, h1, h2⟩ := info_parts row_info11
  have h := run_make (P := Try.prog) w 23 51 i _ Try.underlying23 hi hz .i64 .i64 0 (N : Int) (Int.le_refl _) (by omega) (by rw [h2]; omega) (by omega)
  rw [h1, show ((N : Int)).toNat = N from Int.toNat_natCast N] at h
  exact h
theorem new_rows11 (N : Nat) (hN : N ≤ 1000000) (w : World) : NewE ER 51 w (w.alloc (.cells (madeCells (Value.cells zv11) (N * 9)) 51)) (.slice (some ⟨w.heap.size, 0, none⟩) 0 N) [] :=
  ⟨OwE.of_box (E := ER) (L := []) (c := N) (Box.new w _ _) (Nat.zero_le _) (by simp only [maxLen]; omega) (by rw [size_madeCells]; rfl) (by simp [El.flat]), (fun k e => by have h : w.heap.size = k := (by simpa [Value.ownBlock] using e); omega), (Turn.refl _ w).alloc _⟩

/-- How many a slice has. -/
def vlen11 : Value → Nat
  | .slice _ n _ => n
  | _ => 0
theorem tail_one11 {w : World} {ad : Addr} {c : Nat} {x : R11} {B : List R11} (h : RdE ER w (.slice (some ad) (x :: B).length c) (x :: B)) :
    ∃ P c2, RdE ER w (.slice P B.length c2) B ∧ ∀ W, (Instr.slice 23 (.slice (some ad) (x :: B).length c) (some (.int .i64 1)) none none).run Try.prog W = .ok (.slice P B.length c2) W := by
  have hr := rd_tailV h (i := 1) (by simp)
  have hrun := fun W => run_tailV (E := ER) (P := Try.prog) (tS := 23) Try.underlying23 row_size11 (some ad) (x :: B).length c 1 (by simp) W
  have e1 : (x :: B).length - 1 = B.length := by simp
  unfold tailV at hr hrun
  rw [e1] at hr hrun
  exact ⟨_, _, hr, hrun⟩

set_option maxHeartbeats 8000000 in
theorem both_any11 (va vb : Value) (A B : List R11) (w : World) (ha : RdE ER w va A) (hb : RdE ER w vb B) (hl : A.length + B.length ≤ 1000) : Calls Try.prog 55 #[va, vb] w fun e w' => Rows11 w (bothL A B) e w' := by
  have HA := Lib.hid ha; have HB := Lib.hid hb
  obtain ⟨PA, ca', rfl⟩ := ha.shape
  obtain ⟨PB, cb', rfl⟩ := hb.shape
  clear ha hb
  have hmk := made_rows11 (A.length + B.length) (by omega) w
  have HN0 := Lib.hid (new_rows11 (A.length + B.length) (by omega) w)
  rw [show ((A.length + B.length : Nat) : Int) = (A.length : Int) + (B.length : Int) by omega] at hmk
  go_enter Try.func55, Try.ntmps55
  go_wp2
  go_step3
  go_wp2
  go_step3
  go_wp2
  clear hmk
  go_loopw [0, 1, 5] (fun x0 x1 x5 wr => ∃ A' B' pre, RdE ER w x0 A' ∧ RdE ER w x1 B' ∧ NewE ER 51 w wr x5 pre ∧ bothL A B = pre ++ bothL A' B' ∧ pre.length + (A'.length + B'.length) = A.length + B.length) (fun x0 x1 _ _ => vlen11 x0 + vlen11 x1)
  case atStart => exact ⟨A, B, [], HA.out, HB.out, HN0.out, rfl, by simp⟩
  case round =>
    clear HN0
    obtain ⟨A', B', pre, h0, h1, hn, he, hlen⟩ := hrel
    obtain ⟨P0, c0, rfl⟩ := h0.shape
    obtain ⟨P1, c1, rfl⟩ := h1.shape
    obtain ⟨P5, c5, rfl⟩ := hn.own.shape
    have H0 := Lib.hid h0; have H1 := Lib.hid h1; have HM := Lib.hid hn; have HE := Lib.hid he
    clear h0 h1 hn he
    cases A' with
    | nil =>
      simp only [List.length_nil] at H0 hlen ⊢
      have HR : Hid (bothL A B = pre ++ B') := by show _ = _; rw [HE.out, both_nil]
      have HB2 := Lib.hid (H1.out.later HM.out.turn)
      go_wp2_with (at_builtin; refine wpList_rows11 _ rfl _ _ rfl _ pre rfl HM.out.own _ rfl B' HB2.out (by omega) ?_; intro A3 n3 c3 w3 ho ht hn; have HN3 := Lib.hid (HM.out.step ho ht hn); obtain ⟨A3', c3', e3⟩ := HN3.out.own.shape; injection e3 with e31 e32 e33; subst e31 e32 e33; clear ho ht hn)
      rw [Exit.noGoto_ret]
      go_ret
      exact ⟨_, rfl, by rw [HR.out]; have h := HN3.out.own.rd; rw [List.length_append] at h; (try rw [List.length_cons] at h); exact h, HN3.out.turn⟩
    | cons x A' =>
      obtain ⟨nA, hnA⟩ : ∃ nA, nA = (x :: A').length := ⟨_, rfl⟩
      rw [← hnA] at H0 ⊢
      have HNA := Lib.hid hnA
      have hA1 : ((nA : Int) == 0) = false := by rw [beq_eq_false_iff_ne, hnA, List.length_cons]; omega
      have hA2 : (0 : Int) < (nA : Int) := by rw [hnA, List.length_cons]; omega
      cases B' with
      | nil =>
        simp only [List.length_nil] at H1 ⊢
        have HR : Hid (bothL A B = pre ++ (x :: A')) := by show _ = _; rw [HE.out, both_end]
        have HB2 := Lib.hid (H0.out.later HM.out.turn)
        have hln : pre.length + (x :: A').length ≤ 1000000 := by rw [List.length_nil] at hlen; omega
        clear hnA
        go_wp2_with (at_builtin; refine wpList_rows11 _ rfl _ _ rfl _ pre rfl HM.out.own _ rfl (x :: A') HB2.out hln ?_; intro A3 n3 c3 w3 ho ht hn; have HN3 := Lib.hid (HM.out.step ho ht hn); obtain ⟨A3', c3', e3⟩ := HN3.out.own.shape; injection e3 with e31 e32 e33; subst e31 e32 e33; clear ho ht hn)
        rw [Exit.noGoto_ret]
        go_ret
        exact ⟨_, rfl, by rw [HR.out]; have h := HN3.out.own.rd; rw [List.length_append] at h; (try rw [List.length_cons] at h); exact h, HN3.out.turn⟩
      | cons y B' =>
        obtain ⟨nB, hnB⟩ : ∃ nB, nB = (y :: B').length := ⟨_, rfl⟩
        rw [← hnB] at H1 ⊢
        have HNB := Lib.hid hnB
        have hB1 : ((nB : Int) == 0) = false := by rw [beq_eq_false_iff_ne, hnB, List.length_cons]; omega
        have hB2 : (0 : Int) < (nB : Int) := by rw [hnB, List.length_cons]; omega
        have hB3 : ¬ nB = 0 := by rw [hnB, List.length_cons]; omega
        have hA3 : ¬ nA = 0 := by rw [hnA, List.length_cons]; omega
        obtain ⟨ad, rfl, hca⟩ := row_at11 (j := 0) H0.out rfl
        obtain ⟨bd, rfl, hcb⟩ := row_at11 (j := 0) H1.out rfl
        have HCA : Hid (∀ W, Turn (fun _ => False) w W → RowAt W (ad.add (0 * 9)) x) := hca
        have HCB : Hid (∀ W, Turn (fun _ => False) w W → RowAt W (bd.add (0 * 9)) y) := hcb
        have ea : ad.add (0 * 9) = ad := by unfold Addr.add; simp
        have eb : bd.add (0 * 9) = bd := by unfold Addr.add; simp
        rw [ea] at HCA
        rw [eb] at HCB
        unfold RowAt at HCA HCB
        clear ea eb
        have HCM : Hid (∀ W, Calls Try.prog 33 #[.agg #[.int .i64 y.k.h, sv9 y.k.a, sv9 y.k.b, sv9 y.k.c, sv9 y.k.d], .agg #[.int .i64 x.k.h, sv9 x.k.a, sv9 x.k.b, sv9 x.k.c, sv9 x.k.d]] W fun e w' => e = .returned (.int .i64 (cmpK y.k x.k)) ∧ Turn (fun _ => False) W w') := fun W => compare_any9 y.k x.k W
        have hcg := cmpK_ge (p := y.k) (q := x.k)
        generalize cmpK y.k x.k = cm at *
        obtain ⟨PB2, cB2, hrB, hsB⟩ := tail_one11 (by have h := H1.out; rw [hnB] at h; exact h)
        obtain ⟨PA2, cA2, hrA, hsA⟩ := tail_one11 (by have h := H0.out; rw [hnA] at h; exact h)
        rw [← hnB] at hsB
        rw [← hnA] at hsA
        have HRB := Lib.hid hrB; have HRA := Lib.hid hrA; have HSB := Lib.hid hsB; have HSA := Lib.hid hsA
        clear hca hcb hnA hnB hrB hrA hsB hsA
        rcases hcg with ⟨hk, hneg⟩ | ⟨hk, hneg⟩
        · have HR : Hid (bothL A B = (pre ++ [y]) ++ bothL (x :: A') B') := by show _ = _; rw [HE.out, both_lt hk, List.append_assoc]; rfl
          clear hk
          go_wp2
          refine drawn_region (fun W => Turn (fun _ => False) w W) [] (by kernel_rfl) ?_
          have hS0 : Turn (fun _ => False) w (World.drew wr) := HM.out.turn.drew
          have HT0 : Hid (Turn (fun _ => False) wr (World.drew wr)) := (Turn.refl _ wr).drew
          generalize World.drew wr = wd at *
          refine drawn_take 0 35 (.slice (some bd) nB c1) rfl rfl (by kernel_rfl) (by kernel_rfl) (by kernel_rfl) (by kernel_rfl) (fun _ _ _ h => h) (by rfl) (by assumption) (by intro w hSw; obtain hS1 := hSw; go_simp) ?_
          try simp only [List.setIfInBounds_toArray, List.set_cons_zero, List.set_cons_succ]
          refine drawn_take 1 36 (.pointer (some bd)) rfl rfl (by kernel_rfl) (by kernel_rfl) (by kernel_rfl) (by kernel_rfl) (fun _ _ _ h => h) (by rfl) (by assumption) (by intro w hSw; obtain hS1 := hSw; go_simp) ?_
          try simp only [List.setIfInBounds_toArray, List.set_cons_zero, List.set_cons_succ]
          refine drawn_take 2 37 (.pointer (some bd)) rfl rfl (by kernel_rfl) (by kernel_rfl) (by kernel_rfl) (by kernel_rfl) (fun _ _ _ h => h) (by rfl) (by assumption) (by intro w hSw; obtain hS1 := hSw; go_simp) ?_
          try simp only [List.setIfInBounds_toArray, List.set_cons_zero, List.set_cons_succ]
          refine drawn_take 3 38 (.agg #[.int .i64 y.k.h, sv9 y.k.a, sv9 y.k.b, sv9 y.k.c, sv9 y.k.d]) rfl rfl (by kernel_rfl) (by kernel_rfl) (by kernel_rfl) (by kernel_rfl) (fun _ _ _ h => h) (by rfl) (by assumption) (by intro w hSw; obtain ⟨a0, a1, a2, a3, a4, a5, a6, a7, a8⟩ := HCB.out w hSw; clear hSw; go_simp) ?_
          try simp only [List.setIfInBounds_toArray, List.set_cons_zero, List.set_cons_succ]
          refine drawn_take 4 39 (.slice (some ad) nA c0) rfl rfl (by kernel_rfl) (by kernel_rfl) (by kernel_rfl) (by kernel_rfl) (fun _ _ _ h => h) (by rfl) (by assumption) (by intro w hSw; obtain hS1 := hSw; go_simp) ?_
          try simp only [List.setIfInBounds_toArray, List.set_cons_zero, List.set_cons_succ]
          refine drawn_take 5 40 (.pointer (some ad)) rfl rfl (by kernel_rfl) (by kernel_rfl) (by kernel_rfl) (by kernel_rfl) (fun _ _ _ h => h) (by rfl) (by assumption) (by intro w hSw; obtain hS1 := hSw; go_simp) ?_
          try simp only [List.setIfInBounds_toArray, List.set_cons_zero, List.set_cons_succ]
          refine drawn_take 6 41 (.pointer (some ad)) rfl rfl (by kernel_rfl) (by kernel_rfl) (by kernel_rfl) (by kernel_rfl) (fun _ _ _ h => h) (by rfl) (by assumption) (by intro w hSw; obtain hS1 := hSw; go_simp) ?_
          try simp only [List.setIfInBounds_toArray, List.set_cons_zero, List.set_cons_succ]
          refine drawn_take 7 42 (.agg #[.int .i64 x.k.h, sv9 x.k.a, sv9 x.k.b, sv9 x.k.c, sv9 x.k.d]) rfl rfl (by kernel_rfl) (by kernel_rfl) (by kernel_rfl) (by kernel_rfl) (fun _ _ _ h => h) (by rfl) (by assumption) (by intro w hSw; obtain ⟨a0, a1, a2, a3, a4, a5, a6, a7, a8⟩ := HCA.out w hSw; clear hSw; go_simp) ?_
          try simp only [List.setIfInBounds_toArray, List.set_cons_zero, List.set_cons_succ]
          refine drawn_any [8] (by kernel_rfl) (by simp) ?_
          refine drawn_cons rfl (fun K hK => ?_) drawn_nil
          go_simp
          refine (HCM.out _).mono ?_
          rintro e w5 ⟨rfl, t5⟩
          have HM5 := Lib.hid (HM.out.later (HT0.out.trans t5 (fun _ _ f => f)))
          have hS4 := hS0.trans t5 (fun _ _ f => f)
          refine hK.out _ _ _ hS4 ?_
          clear hK K t5 hS0 HT0
          have hS0 := hS4
          clear hS4
          try simp only [List.setIfInBounds_toArray, List.set_cons_zero, List.set_cons_succ]
          refine drawn_take 9 44 (.bool true) rfl rfl (by kernel_rfl) (by kernel_rfl) (by kernel_rfl) (by kernel_rfl) (fun _ _ _ h => h) (by rfl) (by assumption) (by intro w hSw; obtain hS1 := hSw; go_simp) ?_
          try simp only [List.setIfInBounds_toArray, List.set_cons_zero, List.set_cons_succ]
          refine drawn_last1 10 34 (.bool true) rfl rfl (by kernel_rfl) (by kernel_rfl) (by rfl) (by intro w; go_simp) hS0 ?_
          try simp only [List.setIfInBounds_toArray, List.set_cons_zero, List.set_cons_succ]
          clear hS0
          go_wp2_with fail
          refine drawn_region (fun W => Turn (fun _ => False) w W) [] (by kernel_rfl) ?_
          have hS0 : Turn (fun _ => False) w (World.drew w5) := HM5.out.turn.drew
          have HM6 := Lib.hid (HM5.out.later (Turn.refl (fun _ => False) w5).drew)
          generalize World.drew w5 = wd6 at *
          refine drawn_take 0 45 (.slice P5 pre.length c5) rfl rfl (by kernel_rfl) (by kernel_rfl) (by kernel_rfl) (by kernel_rfl) (fun _ _ _ h => h) (by rfl) (by assumption) (by intro w hSw; obtain hS1 := hSw; go_simp) ?_
          try simp only [List.setIfInBounds_toArray, List.set_cons_zero, List.set_cons_succ]
          refine drawn_take 1 46 (.slice (some bd) nB c1) rfl rfl (by kernel_rfl) (by kernel_rfl) (by kernel_rfl) (by kernel_rfl) (fun _ _ _ h => h) (by rfl) (by assumption) (by intro w hSw; obtain hS1 := hSw; go_simp) ?_
          try simp only [List.setIfInBounds_toArray, List.set_cons_zero, List.set_cons_succ]
          refine drawn_take 2 47 (.pointer (some bd)) rfl rfl (by kernel_rfl) (by kernel_rfl) (by kernel_rfl) (by kernel_rfl) (fun _ _ _ h => h) (by rfl) (by assumption) (by intro w hSw; obtain hS1 := hSw; go_simp) ?_
          try simp only [List.setIfInBounds_toArray, List.set_cons_zero, List.set_cons_succ]
          refine drawn_take 3 48 (.agg #[.int .i64 y.k.h, sv9 y.k.a, sv9 y.k.b, sv9 y.k.c, sv9 y.k.d, .int .i64 y.c.n, .int .i64 y.c.s, .int .i64 y.c.lo, .int .i64 y.c.hi]) rfl rfl (by kernel_rfl) (by kernel_rfl) (by kernel_rfl) (by kernel_rfl) (fun _ _ _ h => h) (by rfl) (by assumption) (by intro w hSw; obtain ⟨a0, a1, a2, a3, a4, a5, a6, a7, a8⟩ := HCB.out w hSw; clear hSw; go_simp) ?_
          try simp only [List.setIfInBounds_toArray, List.set_cons_zero, List.set_cons_succ]
          refine drawn_take 6 51 (.slice (some bd) nB c1) rfl rfl (by kernel_rfl) (by kernel_rfl) (by kernel_rfl) (by kernel_rfl) (fun _ _ _ h => h) (by rfl) (by assumption) (by intro w hSw; obtain hS1 := hSw; go_simp) ?_
          try simp only [List.setIfInBounds_toArray, List.set_cons_zero, List.set_cons_succ]
          refine drawn_take 7 52 (.slice PB2 B'.length cB2) rfl rfl (by kernel_rfl) (by kernel_rfl) (by kernel_rfl) (by kernel_rfl) (fun _ _ _ h => h) (by rfl) (by assumption) (by intro w hSw; clear hSw; have hsl := HSB.out w; go_simp) ?_
          try simp only [List.setIfInBounds_toArray, List.set_cons_zero, List.set_cons_succ]
          refine drawn_any [4] (by kernel_rfl) (by simp) ?_
          refine drawn_cons rfl (fun K hK => ?_) drawn_nil
          go_simp
          have HX := Lib.hid (one_row ER 51 wd6 y)
          have HM7 := Lib.hid (HM6.out.alloc (.cells (ER.enc y).toArray 51))
          have hS7 := HM7.out.turn
          refine hK.out _ _ _ hS7 ?_
          clear hK K hS0 hS7
          try simp only [List.setIfInBounds_toArray, List.set_cons_zero, List.set_cons_succ]
          refine drawn_any [5] (by kernel_rfl) (by simp) ?_
          refine drawn_cons rfl (fun K hK => ?_) drawn_nil
          refine put_app Try.underlying23 row_info11 row_zero11 (by omega) pre HM7.out.own [y] HX.out (by simp only [List.length_cons, List.length_nil]; omega) ?_
          intro A2 n2 c2 w8 ho ht hn2
          have HM8 := Lib.hid (HM7.out.step ho ht hn2)
          have hS0 := HM8.out.turn
          clear ho ht hn2
          refine hK.out _ _ _ hS0 ?_
          clear hK K
          try simp only [List.setIfInBounds_toArray, List.set_cons_zero, List.set_cons_succ]
          refine drawn_take 8 5 (.slice A2 n2 c2) rfl rfl (by kernel_rfl) (by kernel_rfl) (by kernel_rfl) (by kernel_rfl) (fun _ _ _ h => h) (by rfl) (by assumption) (by intro w hSw; obtain hS1 := hSw; go_simp) ?_
          try simp only [List.setIfInBounds_toArray, List.set_cons_zero, List.set_cons_succ]
          refine drawn_last1 9 1 (.slice PB2 B'.length cB2) rfl rfl (by kernel_rfl) (by kernel_rfl) (by rfl) (by intro w; go_simp) hS0 ?_
          try simp only [List.setIfInBounds_toArray, List.set_cons_zero, List.set_cons_succ]
          clear hS0
          go_wp2
          go_roundw
          case rel => exact ⟨(x :: A'), B', pre ++ [y], by exact H0.out, HRB.out, HM8.out, HR.out, by simp only [List.length_append, List.length_cons, List.length_nil] at hlen ⊢; omega⟩
          case measure => simp [vlen11]; have h1 := HNA.out; have h2 := HNB.out; rw [List.length_cons] at h1 h2; omega
        · have HR : Hid (bothL A B = (pre ++ [x]) ++ bothL A' (y :: B')) := by show _ = _; rw [HE.out, both_ge hk, List.append_assoc]; rfl
          have hn0 : ¬ cm < 0 := by omega
          clear hk
          go_wp2
          refine drawn_region (fun W => Turn (fun _ => False) w W) [] (by kernel_rfl) ?_
          have hS0 : Turn (fun _ => False) w (World.drew wr) := HM.out.turn.drew
          have HT0 : Hid (Turn (fun _ => False) wr (World.drew wr)) := (Turn.refl _ wr).drew
          generalize World.drew wr = wd at *
          refine drawn_take 0 35 (.slice (some bd) nB c1) rfl rfl (by kernel_rfl) (by kernel_rfl) (by kernel_rfl) (by kernel_rfl) (fun _ _ _ h => h) (by rfl) (by assumption) (by intro w hSw; obtain hS1 := hSw; go_simp) ?_
          try simp only [List.setIfInBounds_toArray, List.set_cons_zero, List.set_cons_succ]
          refine drawn_take 1 36 (.pointer (some bd)) rfl rfl (by kernel_rfl) (by kernel_rfl) (by kernel_rfl) (by kernel_rfl) (fun _ _ _ h => h) (by rfl) (by assumption) (by intro w hSw; obtain hS1 := hSw; go_simp) ?_
          try simp only [List.setIfInBounds_toArray, List.set_cons_zero, List.set_cons_succ]
          refine drawn_take 2 37 (.pointer (some bd)) rfl rfl (by kernel_rfl) (by kernel_rfl) (by kernel_rfl) (by kernel_rfl) (fun _ _ _ h => h) (by rfl) (by assumption) (by intro w hSw; obtain hS1 := hSw; go_simp) ?_
          try simp only [List.setIfInBounds_toArray, List.set_cons_zero, List.set_cons_succ]
          refine drawn_take 3 38 (.agg #[.int .i64 y.k.h, sv9 y.k.a, sv9 y.k.b, sv9 y.k.c, sv9 y.k.d]) rfl rfl (by kernel_rfl) (by kernel_rfl) (by kernel_rfl) (by kernel_rfl) (fun _ _ _ h => h) (by rfl) (by assumption) (by intro w hSw; obtain ⟨a0, a1, a2, a3, a4, a5, a6, a7, a8⟩ := HCB.out w hSw; clear hSw; go_simp) ?_
          try simp only [List.setIfInBounds_toArray, List.set_cons_zero, List.set_cons_succ]
          refine drawn_take 4 39 (.slice (some ad) nA c0) rfl rfl (by kernel_rfl) (by kernel_rfl) (by kernel_rfl) (by kernel_rfl) (fun _ _ _ h => h) (by rfl) (by assumption) (by intro w hSw; obtain hS1 := hSw; go_simp) ?_
          try simp only [List.setIfInBounds_toArray, List.set_cons_zero, List.set_cons_succ]
          refine drawn_take 5 40 (.pointer (some ad)) rfl rfl (by kernel_rfl) (by kernel_rfl) (by kernel_rfl) (by kernel_rfl) (fun _ _ _ h => h) (by rfl) (by assumption) (by intro w hSw; obtain hS1 := hSw; go_simp) ?_
          try simp only [List.setIfInBounds_toArray, List.set_cons_zero, List.set_cons_succ]
          refine drawn_take 6 41 (.pointer (some ad)) rfl rfl (by kernel_rfl) (by kernel_rfl) (by kernel_rfl) (by kernel_rfl) (fun _ _ _ h => h) (by rfl) (by assumption) (by intro w hSw; obtain hS1 := hSw; go_simp) ?_
          try simp only [List.setIfInBounds_toArray, List.set_cons_zero, List.set_cons_succ]
          refine drawn_take 7 42 (.agg #[.int .i64 x.k.h, sv9 x.k.a, sv9 x.k.b, sv9 x.k.c, sv9 x.k.d]) rfl rfl (by kernel_rfl) (by kernel_rfl) (by kernel_rfl) (by kernel_rfl) (fun _ _ _ h => h) (by rfl) (by assumption) (by intro w hSw; obtain ⟨a0, a1, a2, a3, a4, a5, a6, a7, a8⟩ := HCA.out w hSw; clear hSw; go_simp) ?_
          try simp only [List.setIfInBounds_toArray, List.set_cons_zero, List.set_cons_succ]
          refine drawn_any [8] (by kernel_rfl) (by simp) ?_
          refine drawn_cons rfl (fun K hK => ?_) drawn_nil
          go_simp
          refine (HCM.out _).mono ?_
          rintro e w5 ⟨rfl, t5⟩
          have HM5 := Lib.hid (HM.out.later (HT0.out.trans t5 (fun _ _ f => f)))
          have hS4 := hS0.trans t5 (fun _ _ f => f)
          refine hK.out _ _ _ hS4 ?_
          clear hK K t5 hS0 HT0
          have hS0 := hS4
          clear hS4
          try simp only [List.setIfInBounds_toArray, List.set_cons_zero, List.set_cons_succ]
          refine drawn_take 9 44 (.bool false) rfl rfl (by kernel_rfl) (by kernel_rfl) (by kernel_rfl) (by kernel_rfl) (fun _ _ _ h => h) (by rfl) (by assumption) (by intro w hSw; obtain hS1 := hSw; go_simp) ?_
          try simp only [List.setIfInBounds_toArray, List.set_cons_zero, List.set_cons_succ]
          refine drawn_last1 10 34 (.bool false) rfl rfl (by kernel_rfl) (by kernel_rfl) (by rfl) (by intro w; go_simp) hS0 ?_
          try simp only [List.setIfInBounds_toArray, List.set_cons_zero, List.set_cons_succ]
          clear hS0
          go_wp2_with fail
          refine drawn_region (fun W => Turn (fun _ => False) w W) [] (by kernel_rfl) ?_
          have hS0 : Turn (fun _ => False) w (World.drew w5) := HM5.out.turn.drew
          have HM6 := Lib.hid (HM5.out.later (Turn.refl (fun _ => False) w5).drew)
          generalize World.drew w5 = wd6 at *
          refine drawn_take 0 12 (.slice P5 pre.length c5) rfl rfl (by kernel_rfl) (by kernel_rfl) (by kernel_rfl) (by kernel_rfl) (fun _ _ _ h => h) (by rfl) (by assumption) (by intro w hSw; obtain hS1 := hSw; go_simp) ?_
          try simp only [List.setIfInBounds_toArray, List.set_cons_zero, List.set_cons_succ]
          refine drawn_take 1 13 (.slice (some ad) nA c0) rfl rfl (by kernel_rfl) (by kernel_rfl) (by kernel_rfl) (by kernel_rfl) (fun _ _ _ h => h) (by rfl) (by assumption) (by intro w hSw; obtain hS1 := hSw; go_simp) ?_
          try simp only [List.setIfInBounds_toArray, List.set_cons_zero, List.set_cons_succ]
          refine drawn_take 2 14 (.pointer (some ad)) rfl rfl (by kernel_rfl) (by kernel_rfl) (by kernel_rfl) (by kernel_rfl) (fun _ _ _ h => h) (by rfl) (by assumption) (by intro w hSw; obtain hS1 := hSw; go_simp) ?_
          try simp only [List.setIfInBounds_toArray, List.set_cons_zero, List.set_cons_succ]
          refine drawn_take 3 15 (.agg #[.int .i64 x.k.h, sv9 x.k.a, sv9 x.k.b, sv9 x.k.c, sv9 x.k.d, .int .i64 x.c.n, .int .i64 x.c.s, .int .i64 x.c.lo, .int .i64 x.c.hi]) rfl rfl (by kernel_rfl) (by kernel_rfl) (by kernel_rfl) (by kernel_rfl) (fun _ _ _ h => h) (by rfl) (by assumption) (by intro w hSw; obtain ⟨a0, a1, a2, a3, a4, a5, a6, a7, a8⟩ := HCA.out w hSw; clear hSw; go_simp) ?_
          try simp only [List.setIfInBounds_toArray, List.set_cons_zero, List.set_cons_succ]
          refine drawn_take 6 18 (.slice (some ad) nA c0) rfl rfl (by kernel_rfl) (by kernel_rfl) (by kernel_rfl) (by kernel_rfl) (fun _ _ _ h => h) (by rfl) (by assumption) (by intro w hSw; obtain hS1 := hSw; go_simp) ?_
          try simp only [List.setIfInBounds_toArray, List.set_cons_zero, List.set_cons_succ]
          refine drawn_take 7 19 (.slice PA2 A'.length cA2) rfl rfl (by kernel_rfl) (by kernel_rfl) (by kernel_rfl) (by kernel_rfl) (fun _ _ _ h => h) (by rfl) (by assumption) (by intro w hSw; clear hSw; have hsl := HSA.out w; go_simp) ?_
          try simp only [List.setIfInBounds_toArray, List.set_cons_zero, List.set_cons_succ]
          refine drawn_any [4] (by kernel_rfl) (by simp) ?_
          refine drawn_cons rfl (fun K hK => ?_) drawn_nil
          go_simp
          have HX := Lib.hid (one_row ER 51 wd6 x)
          have HM7 := Lib.hid (HM6.out.alloc (.cells (ER.enc x).toArray 51))
          have hS7 := HM7.out.turn
          refine hK.out _ _ _ hS7 ?_
          clear hK K hS0 hS7
          try simp only [List.setIfInBounds_toArray, List.set_cons_zero, List.set_cons_succ]
          refine drawn_any [5] (by kernel_rfl) (by simp) ?_
          refine drawn_cons rfl (fun K hK => ?_) drawn_nil
          refine put_app Try.underlying23 row_info11 row_zero11 (by omega) pre HM7.out.own [x] HX.out (by simp only [List.length_cons, List.length_nil]; omega) ?_
          intro A2 n2 c2 w8 ho ht hn2
          have HM8 := Lib.hid (HM7.out.step ho ht hn2)
          have hS0 := HM8.out.turn
          clear ho ht hn2
          refine hK.out _ _ _ hS0 ?_
          clear hK K
          try simp only [List.setIfInBounds_toArray, List.set_cons_zero, List.set_cons_succ]
          refine drawn_take 8 5 (.slice A2 n2 c2) rfl rfl (by kernel_rfl) (by kernel_rfl) (by kernel_rfl) (by kernel_rfl) (fun _ _ _ h => h) (by rfl) (by assumption) (by intro w hSw; obtain hS1 := hSw; go_simp) ?_
          try simp only [List.setIfInBounds_toArray, List.set_cons_zero, List.set_cons_succ]
          refine drawn_last1 9 0 (.slice PA2 A'.length cA2) rfl rfl (by kernel_rfl) (by kernel_rfl) (by rfl) (by intro w; go_simp) hS0 ?_
          try simp only [List.setIfInBounds_toArray, List.set_cons_zero]
          clear hS0
          go_wp2
          go_roundw
          case rel => exact ⟨A', (y :: B'), pre ++ [x], HRA.out, by exact H1.out, HM8.out, HR.out, by simp only [List.length_append, List.length_cons, List.length_nil] at hlen ⊢; omega⟩
          case measure => simp [vlen11]; have h1 := HNA.out; have h2 := HNB.out; rw [List.length_cons] at h1 h2; omega

end Go.Proofs.Ytnnlgeldjjknmaa

/-
  Stage 11: the program's together: all rows of segments, in one list whose keys never fall.
-/
namespace Go.Proofs.Ytnnlgeldjjknmaa
open Go.RowKit

set_option maxRecDepth 100000

theorem SVs11.later {w w' : World} {v : Value} {ls : List (List R11)} (h : SVs11 w v ls) (ht : Turn (fun _ => False) w w') : SVs11 w' v ls := by
  obtain ⟨ps, h1, h2, h3⟩ := h.out
  exact ⟨ps, h1.later ht, h2, fun j p x e1 e2 => (h3 j p x e1 e2).later ht⟩
theorem SVs11.shape {w : World} {v : Value} {ls : List (List R11)} (h : SVs11 w v ls) : ∃ A c, v = .slice A ls.length c := by
  obtain ⟨ps, h1, h2, h3⟩ := h.out
  obtain ⟨A, c, e⟩ := h1.shape
  exact ⟨A, c, by rw [e, h2]⟩
theorem SVs11.front {w : World} {A : Option Addr} {n c : Nat} {ls : List (List R11)} (h : SVs11 w (.slice A n c) ls) (m : Nat) (hm : m ≤ n) : SVs11 w (.slice A m c) (ls.take m) := by
  obtain ⟨ps, h1, h2, h3⟩ := h.out
  refine ⟨ps.take m, h1.front m hm, by rw [List.length_take, List.length_take, h2], fun j p x e1 e2 => ?_⟩
  rw [List.getElem?_take] at e1 e2
  split at e1
  · rename_i hj
    rw [if_pos hj] at e2
    exact h3 j p x e1 e2
  · cases e1
theorem SVs11.back {w : World} {A : Option Addr} {n c : Nat} {ls : List (List R11)} (h : SVs11 w (.slice A n c) ls) (m : Nat) (hm : m ≤ n) : SVs11 w (tailV EP11 A n c m) (ls.drop m) := by
  obtain ⟨ps, h1, h2, h3⟩ := h.out
  refine ⟨ps.drop m, rd_tailV h1 hm, by rw [List.length_drop, List.length_drop, h2], fun j p x e1 e2 => ?_⟩
  rw [List.getElem?_drop] at e1 e2
  exact h3 _ p x e1 e2
theorem SVs11.mem {w : World} {v : Value} {ls : List (List R11)} (h : SVs11 w v ls) : ∀ r ∈ ls.flatten, okRow r = true ∧ okC r.c := fun r hr => by
  obtain ⟨l, hl, hr⟩ := List.mem_flatten.1 hr
  obtain ⟨j, hj⟩ := List.mem_iff_getElem?.1 hl
  obtain ⟨ps, h1, h2, h3⟩ := h.out
  obtain ⟨hj1, _⟩ := List.getElem?_eq_some_iff.1 hj
  have hs := h3 j _ l (List.getElem?_eq_getElem (by omega)) hj
  exact ⟨(rightR_spec hs.right.1).2 r hr, hs.right.2.1 r hr⟩
theorem seg_size11 : (Try.prog.info? 27).map (·.size) = some EP11.sz := by kernel_rfl

/-- All rows, together. -/
def Tog11 (w : World) (ls : List (List R11)) (e : Ending) (w' : World) : Prop := ∃ v rows, e = .returned v ∧ RdE ER w' v rows ∧ TogR ls rows ∧ Turn (fun _ => False) w w'

set_option maxHeartbeats 8000000 in
theorem together_any11 : ∀ (k : Nat) (v : Value) (ls : List (List R11)) (w : World), ls.length ≤ k → SVs11 w v ls → ls.flatten.length ≤ 1000 → ls.length ≤ 1000 → Calls Try.prog 41 #[v] w fun e w' => Tog11 w ls e w'
  | k, v, ls, w, hk, hv, hl, hn => by
    have HV := Lib.hid hv
    obtain ⟨A, c, rfl⟩ := hv.shape
    by_cases h0 : ls.length = 0
    · have e0 := List.eq_nil_of_length_eq_zero h0
      subst e0
      simp only [List.length_nil] at HV ⊢
      clear hv
      go_enter Try.func41, Try.ntmps41
      go_wp2
      go_ret
      exact ⟨_, [], rfl, RdE.nil _, TogR.none, Turn.refl _ _⟩
    · by_cases h1 : ls.length = 1
      · obtain ⟨l, e1⟩ := List.length_eq_one_iff.1 h1
        subst e1
        obtain ⟨ps, p1, p2, p3⟩ := hv.out
        obtain ⟨p, e2⟩ := List.length_eq_one_iff.1 p2
        subst e2
        have hs := p3 0 p l rfl rfl
        obtain ⟨ad, rfl, hc⟩ := p1.cells (j := 0) rfl
        have c0 : w.cell? (ad.add (0 * 1)) = some (.pointer p) := hc 0 _ rfl
        have ea : ad.add (0 * 1) = ad := by unfold Addr.add; simp
        rw [ea] at c0
        have HA := Lib.hid (all_any11 _ l w hs)
        have HR := Lib.hid (rightR_spec hs.right.1).1
        simp only [List.length_cons, List.length_nil, Nat.zero_add] at HV ⊢
        clear hv p1 p2 p3 hs hc h0 h1 ea
        go_enter Try.func41, Try.ntmps41
        go_wp2_with fail
        refine HA.out.mono ?_
        rintro e w1 ⟨sl, rfl, hr, hw⟩
        replace hw := hw.symm
        subst hw
        have HRD := Lib.hid hr
        obtain ⟨A2, c2, rfl⟩ := hr.shape
        clear hr HA
        go_wp2
        go_ret
        exact ⟨_, l, rfl, HRD.out, TogR.one HR.out, Turn.refl _ _⟩
      · obtain ⟨n, hnn⟩ : ∃ n, n = ls.length := ⟨_, rfl⟩
        obtain ⟨m, hm⟩ : ∃ m, m = n / 2 := ⟨_, rfl⟩
        have hm1 : m < n := by omega
        have hm2 : 1 ≤ m := by omega
        match k, hk with
        | 0, hk => exact absurd hk (by omega)
        | k + 1, hk =>
          rw [← hnn] at HV ⊢
          have hf := HV.out.front m (by omega)
          have hb := HV.out.back m (by omega)
          have hlt : (ls.take m).flatten.length + (ls.drop m).flatten.length = ls.flatten.length := by rw [← List.length_append, ← List.flatten_append, List.take_append_drop]
          have e1 : (ls.take m).length = m := by rw [List.length_take]; omega
          have e2 : (ls.drop m).length = n - m := by rw [List.length_drop]; omega
          have HF : Hid (∀ W, Turn (fun _ => False) w W → Calls Try.prog 41 #[.slice A m c] W fun e w' => Tog11 W (ls.take m) e w') := fun W ht => together_any11 k _ _ W (by omega) (hf.later ht) (by omega) (by omega)
          obtain ⟨tv, htv⟩ : ∃ tv, tv = tailV EP11 A n c m := ⟨_, rfl⟩
          have HB : Hid (∀ W, Turn (fun _ => False) w W → Calls Try.prog 41 #[tv] W fun e w' => Tog11 W (ls.drop m) e w') := fun W ht => together_any11 k _ _ W (by omega) (by rw [htv]; exact hb.later ht) (by omega) (by omega)
          have hfit : n ≤ c := by
            obtain ⟨ps, q1, q2, _⟩ := HV.out.out
            have := q1.fits
            omega
          have HRF := Lib.hid (fun W => run_frontV (E := EP11) (P := Try.prog) Try.underlying78 seg_size11 A n c m (by omega) W)
          have hrt := fun W => run_tailV (E := EP11) (P := Try.prog) Try.underlying78 seg_size11 A n c m (by omega) W
          rw [← htv] at hrt
          have HRT := Lib.hid hrt
          have HTV := Lib.hid htv
          have hq0 : ((n : Int) == 0) = false := by rw [beq_eq_false_iff_ne]; omega
          have hq1 : ((n : Int) == 1) = false := by rw [beq_eq_false_iff_ne]; omega
          have hdiv : (n : Int).tdiv 2 = (m : Int) := by rw [hm, Int.tdiv_eq_ediv_of_nonneg (by omega)]; omega
          have hdv2 : (n : Int) / 2 = (m : Int) := by omega
          have hwm : wrap64 (m : Int) = (m : Int) := by unfold wrap64; omega
          have HTK : Hid (ls.take m ++ ls.drop m = ls) := List.take_append_drop m ls
          have HLL : Hid ((ls.take m).flatten.length + (ls.drop m).flatten.length ≤ 1000) := by show _ ≤ _; omega
          clear hv hf hb e1 e2 hlt h0 h1 hnn hm htv hrt hk
          go_enter Try.func41, Try.ntmps41
          go_wp2
          refine drawn_region (fun W => Turn (fun _ => False) w W) [] (by kernel_rfl) ?_
          have hS0 : Turn (fun _ => False) w (World.drew w) := (Turn.refl _ w).drew
          generalize World.drew w = wd at *
          refine drawn_take 0 17 (.slice A n c) rfl rfl (by kernel_rfl) (by kernel_rfl) (by kernel_rfl) (by kernel_rfl) (fun _ _ _ h => h) (by rfl) (by assumption) (by intro w hSw; obtain hS1 := hSw; go_simp) ?_
          try simp only [List.setIfInBounds_toArray, List.set_cons_zero, List.set_cons_succ]
          refine drawn_take 1 18 (.int .i64 (m : Int)) rfl rfl (by kernel_rfl) (by kernel_rfl) (by kernel_rfl) (by kernel_rfl) (fun _ _ _ h => h) (by rfl) (by assumption) (by intro w hSw; obtain hS1 := hSw; go_simp) ?_
          try simp only [List.setIfInBounds_toArray, List.set_cons_zero, List.set_cons_succ]
          refine drawn_take 2 19 (.slice A m c) rfl rfl (by kernel_rfl) (by kernel_rfl) (by kernel_rfl) (by kernel_rfl) (fun _ _ _ h => h) (by rfl) (by assumption) (by intro w hSw; clear hSw; have hsl := HRF.out w; go_simp) ?_
          try simp only [List.setIfInBounds_toArray, List.set_cons_zero, List.set_cons_succ]
          refine drawn_take 4 21 (.slice A n c) rfl rfl (by kernel_rfl) (by kernel_rfl) (by kernel_rfl) (by kernel_rfl) (fun _ _ _ h => h) (by rfl) (by assumption) (by intro w hSw; obtain hS1 := hSw; go_simp) ?_
          try simp only [List.setIfInBounds_toArray, List.set_cons_zero, List.set_cons_succ]
          refine drawn_take 5 22 (.int .i64 (m : Int)) rfl rfl (by kernel_rfl) (by kernel_rfl) (by kernel_rfl) (by kernel_rfl) (fun _ _ _ h => h) (by rfl) (by assumption) (by intro w hSw; obtain hS1 := hSw; go_simp) ?_
          try simp only [List.setIfInBounds_toArray, List.set_cons_zero, List.set_cons_succ]
          refine drawn_take 6 23 tv rfl rfl (by kernel_rfl) (by kernel_rfl) (by kernel_rfl) (by kernel_rfl) (fun _ _ _ h => h) (by rfl) (by assumption) (by intro w hSw; clear hSw; have hsl := HRT.out w; go_simp) ?_
          try simp only [List.setIfInBounds_toArray, List.set_cons_zero, List.set_cons_succ]
          refine drawn_any [3] (by kernel_rfl) (by simp) ?_
          refine drawn_cons rfl (fun K hK => ?_) drawn_nil
          go_simp
          refine (HF.out _ hS0).mono ?_
          rintro e w1 ⟨v1, rows1, rfl, hr1, hg1, t1⟩
          have hS1 := hS0.trans t1 (fun _ _ f => f)
          have HR1 := Lib.hid hr1; have HG1 := Lib.hid hg1
          refine hK.out _ _ _ hS1 ?_
          clear hK K hS0 hr1 hg1 t1
          try simp only [List.setIfInBounds_toArray, List.set_cons_zero, List.set_cons_succ]
          refine drawn_any [7] (by kernel_rfl) (by simp) ?_
          refine drawn_cons rfl (fun K hK => ?_) drawn_nil
          go_simp
          refine (HB.out _ hS1).mono ?_
          rintro e w2 ⟨v2, rows2, rfl, hr2, hg2, t2⟩
          have hS2 := hS1.trans t2 (fun _ _ f => f)
          have HR2 := Lib.hid hr2; have HG2 := Lib.hid hg2; have HR1' := Lib.hid (HR1.out.later t2)
          refine hK.out _ _ _ hS2 ?_
          clear hK K hS1 hr2 hg2 t2
          try simp only [List.setIfInBounds_toArray, List.set_cons_zero, List.set_cons_succ]
          have hbl : rows1.length + rows2.length ≤ 1000 := by rw [HG1.out.len, HG2.out.len]; exact HLL.out
          refine drawn_any [8] (by kernel_rfl) (by simp) ?_
          refine drawn_cons rfl (fun K hK => ?_) drawn_nil
          go_simp
          refine (both_any11 v1 v2 rows1 rows2 w2 HR1'.out HR2.out hbl).mono ?_
          rintro e w3 ⟨v3, rfl, hr3, t3⟩
          have hS3 := hS2.trans t3 (fun _ _ f => f)
          have HR3 := Lib.hid hr3
          obtain ⟨A3, c3, e3⟩ := hr3.shape
          subst e3
          refine hK.out _ _ _ hS3 ?_
          clear hK K hS2 hr3 t3
          try simp only [List.setIfInBounds_toArray, List.set_cons_zero, List.set_cons_succ]
          refine drawn_last1 9 2 (.slice A3 (bothL rows1 rows2).length c3) rfl rfl (by kernel_rfl) (by kernel_rfl) (by rfl) (by intro w; go_simp) hS3 ?_
          try simp only [List.setIfInBounds_toArray, List.set_cons_zero, List.set_cons_succ]
          have HE := Lib.hid hS3
          clear hS3
          go_wp2
          go_ret
          have hg := HG1.out.two HG2.out
          rw [HTK.out] at hg
          exact ⟨_, _, rfl, HR3.out, hg, HE.out⟩

end Go.Proofs.Ytnnlgeldjjknmaa

/-
  A part of one element stored into a row of one's own. No type is named here.
-/
namespace Go.Proofs.Ytnnlgeldjjknmaa
open Go.RowKit

section
variable {T : Type} {E : El T} {e : TypeId} {w : World} {ad : Addr} {n c : Nat} {L : List T}
theorem OwE.part (h : OwE E e w (.slice (some ad) n c) L) {j o : Nat} {z x : T} {vs : List Value} (hz : L[j]? = some z) (ho : o + vs.length ≤ E.sz) (hx : E.enc x = (E.enc z).take o ++ vs ++ (E.enc z).drop (o + vs.length)) :
    OwE E e (w.setCells ad.block (ad.off + j * E.sz + o) vs) (.slice (some ad) n c) (L.set j x) := by
  obtain ⟨hj, hze⟩ := List.getElem?_eq_some_iff.1 hz
  obtain ⟨cur, ha, hn, hb, h1, h2, h3, h4⟩ := h.home
  have hoff : ad.off = 0 := by rw [ha]
  rw [hoff, Nat.zero_add, ha, hn]
  have hsz : L.length * E.sz ≤ cur.size := by rw [h3]; exact Nat.mul_le_mul_right _ h1
  have hj2 : j * E.sz + E.sz ≤ L.length * E.sz := by rw [← Nat.succ_mul]; exact Nat.mul_le_mul_right _ hj
  have hbox := Box.setCells vs (j * E.sz + o) cur w hb (by omega)
  have hl : (L.set j x).length = L.length := List.length_set
  have hF : (E.flat L).length = L.length * E.sz := E.flat_len L
  have hcur : cur.toList = E.flat L ++ cur.toList.drop (L.length * E.sz) := by rw [← h4, List.take_append_drop]
  have hsame : E.flat L = (E.flat L).take (j * E.sz) ++ (E.enc z ++ (E.flat L).drop (j * E.sz + E.sz)) := by
    have := E.flat_set hj z
    rw [← hze, List.set_getElem_self, List.append_assoc] at this
    rw [← hze]
    exact this
  have hT : ((E.flat L).take (j * E.sz)).length = j * E.sz := by rw [List.length_take]; omega
  have hZ : (E.enc z).length = E.sz := E.len z
  have e1 : cur.toList.take (j * E.sz + o) ++ vs ++ cur.toList.drop (j * E.sz + o + vs.length) = E.flat (L.set j x) ++ cur.toList.drop (L.length * E.sz) := by
    rw [E.flat_set hj, hx]
    have t1 : cur.toList.take (j * E.sz + o) = (E.flat L).take (j * E.sz) ++ (E.enc z).take o := by
      rw [hcur, List.take_append_of_le_length (by omega)]
      conv => lhs; rw [hsame]
      rw [List.take_append, hT, List.take_of_length_le (by omega), show j * E.sz + o - j * E.sz = o by omega, List.take_append_of_le_length (by omega)]
    have t2 : cur.toList.drop (j * E.sz + o + vs.length) = (E.enc z).drop (o + vs.length) ++ ((E.flat L).drop (j * E.sz + E.sz) ++ cur.toList.drop (L.length * E.sz)) := by
      conv => lhs; rw [hcur]
      rw [List.drop_append_of_le_length (by omega)]
      conv => lhs; lhs; rw [hsame]
      rw [List.drop_append, hT, List.drop_of_length_le (by omega), List.nil_append, show j * E.sz + o + vs.length - j * E.sz = o + vs.length by omega, List.drop_append_of_le_length (by omega), List.append_assoc]
    rw [t1, t2]
    simp only [List.append_assoc]
  rw [e1] at hbox
  have hr := OwE.of_box (E := E) (L := L.set j x) (c := c) hbox (by rw [hl]; exact h1) h2 (by
    have hd : (cur.toList.drop (L.length * E.sz)).length = cur.size - L.length * E.sz := by rw [List.length_drop, Array.length_toList]
    rw [List.size_toArray, List.length_append, E.flat_len, hl, hd]
    omega) (by rw [hl]; dsimp only; rw [← hl, ← E.flat_len, List.take_left])
  rw [hl] at hr
  exact hr
theorem OwE.therePart (h : OwE E e w (.slice (some ad) n c) L) {j o m : Nat} (hj : j < L.length) (ho : o + m ≤ E.sz) : w.there ad.block (ad.off + j * E.sz + o) m := by
  obtain ⟨cur, ha, hn, hb, h1, h2, h3, h4⟩ := h.home
  have hoff : ad.off = 0 := by rw [ha]
  intro i hi
  have hj2 : j * E.sz + E.sz ≤ L.length * E.sz := by rw [← Nat.succ_mul]; exact Nat.mul_le_mul_right _ hj
  have hsz : L.length * E.sz ≤ cur.size := by rw [h3]; exact Nat.mul_le_mul_right _ h1
  refine ⟨?_, hb.free _⟩
  rw [hb.cell, Array.getElem?_eq_getElem (by omega)]
  rfl
/-- A part of one element stored, in a region that draws nothing. -/
theorem wpList_part {P : Program} {ops : Array Oper} {rest : List Oper} {op : Oper} {a : Act} {Q : Exit → Act → World → Prop} (hgd : op.guard = none) (ty : TypeId) (x y : Operand) (ho : op.op = .store ty x y)
    (hown : OwE E e w (.slice (some ad) n c) L) (j o : Nat) (z t : T) (vs : Array Value) (hz : L[j]? = some z) (hb : o + vs.size ≤ E.sz) (ht : E.enc t = (E.enc z).take o ++ vs.toList ++ (E.enc z).drop (o + vs.size))
    (hx : a.eval x = .pointer (some ⟨(ad.add (j * E.sz)).block, (ad.add (j * E.sz)).off + o, none⟩)) (hy : a.eval y = .agg vs) (hi : (P.info? ty).map (·.size) = some vs.size) (h1 : vs.all (·.oneCell') = true)
    (h : ∀ w', OwE E e w' (.slice (some ad) n c) (L.set j t) → Turn (fun k => k = ad.block) w w' → wpList P ops Q rest (a.put op.dst undef) w') : wpList P ops Q (op :: rest) a w := by
  obtain ⟨cur, ha, -⟩ := hown.home
  have hadd : ad.add (j * E.sz) = ⟨ad.block, ad.off + j * E.sz, none⟩ := by
    obtain ⟨b, o, s⟩ := ad
    simp only [Addr.mk.injEq, true_and] at ha
    obtain ⟨rfl, rfl⟩ := ha
    rw [own_add, Nat.zero_add]
  rw [hadd] at hx
  have hj := (List.getElem?_eq_some_iff.1 hz).1
  refine wpList_store_mid hgd ty x y ho ad.block (ad.off + j * E.sz + o) vs hx hy (hown.therePart hj hb) hi h1 ?_
  have hl : vs.toList.length = vs.size := Array.length_toList
  exact h _ (hown.part hz (by rw [hl]; exact hb) (by rw [hl]; exact ht)) (turn_setCells (S := fun k => k = ad.block) rfl _ _ _)
end

end Go.Proofs.Ytnnlgeldjjknmaa

/-
  Stage 11: the program's once: each key once, its cells merged; Merge.
-/
namespace Go.Proofs.Ytnnlgeldjjknmaa
open Go.RowKit

set_option maxRecDepth 100000

/-- Behind once: what rows come to. -/
def Once11 (w : World) (rows : List R11) (e : Ending) (w' : World) : Prop := ∃ v, e = .returned (.tuple #[v, .bool (putsR [] rows).isSome]) ∧ RdE ER w' v ((putsR [] rows).getD []) ∧ Turn (fun _ => False) w w'
theorem last_at {M : List R11} {n : Nat} (h : M.length = n + 1) : ∃ t z, M = t ++ [z] ∧ t.length = n ∧ M[n]? = some z ∧ M.getLast? = some z := by
  rcases List.eq_nil_or_concat M with e | ⟨t, z, e⟩
  · subst e; simp at h
  · rw [List.concat_eq_append] at e
    subst e
    have ht : t.length = n := by simpa using h
    exact ⟨t, z, rfl, ht, by rw [← ht]; simp, by simp⟩
/-- A row's cell stored, in a region that draws nothing. -/
theorem wpList_cell11 {w : World} {ad : Addr} {n c : Nat} {L : List R11} {ops : Array Oper} {rest : List Oper} {op : Oper} {a : Act} {Q : Exit → Act → World → Prop} (hgd : op.guard = none) (x y : Operand) (ho : op.op = .store 47 x y)
    (hown : OwE ER 51 w (.slice (some ad) n c) L) (j : Nat) (z : R11) (n2 s2 lo2 hi2 : Int) (hz : L[j]? = some z) (hx : a.eval x = .pointer (some ⟨(ad.add (j * 9)).block, (ad.add (j * 9)).off + 5, none⟩)) (hy : a.eval y = .agg #[.int .i64 n2, .int .i64 s2, .int .i64 lo2, .int .i64 hi2])
    (h : ∀ w', OwE ER 51 w' (.slice (some ad) n c) (L.set j ⟨z.k, ⟨n2, s2, lo2, hi2⟩⟩) → Turn (fun k => k = ad.block) w w' → wpList Try.prog ops Q rest (a.put op.dst undef) w') : wpList Try.prog ops Q (op :: rest) a w :=
  wpList_part (E := ER) hgd _ x y ho hown j 5 z ⟨z.k, ⟨n2, s2, lo2, hi2⟩⟩ (ca ⟨n2, s2, lo2, hi2⟩) hz (by show 5 + 4 ≤ 9; decide) rfl hx hy (by kernel_rfl) (cell_one11 _) h

set_option maxHeartbeats 16000000 in
theorem once_any11 (v : Value) (rows : List R11) (w : World) (hv : RdE ER w v rows) (hnf : NoFall rows) (hok : ∀ r ∈ rows, okRow r = true ∧ okC r.c) (hl : rows.length ≤ 1000) : Calls Try.prog 40 #[v] w fun e w' => Once11 w rows e w' := by
  have HV := Lib.hid hv
  have HNF := Lib.hid hnf
  have HOK := Lib.hid hok
  obtain ⟨A, c, rfl⟩ := hv.shape
  clear hv hnf hok
  have HN0 : Hid (NewE ER 51 w w (.slice none 0 0) []) := ⟨OwE.nil _, (fun k e => by simp [Value.ownBlock] at e), Turn.refl _ w⟩
  have HSI : Hid ((Try.prog.info? 47).map (·.size) = some 4) := by show _ = _; kernel_rfl
  go_enter Try.func40, Try.ntmps40
  go_wp2_with fail
  go_loopw [4, 12] (fun x4 x12 wr => ∃ (i : Nat) (M : List R11), x12 = .int .i64 (i : Int) ∧ i ≤ rows.length ∧ NewE ER 51 w wr x4 M ∧ OnceR rows i M) (fun _ x12 _ => rows.length - (intOf x12).toNat)
  case atStart => exact ⟨0, [], rfl, Nat.zero_le _, HN0.out, OnceR.start rows⟩
  case round =>
    clear HN0
    obtain ⟨i, M, rfl, hi, hm, ho⟩ := hrel
    have HM := Lib.hid hm; have HO := Lib.hid ho
    obtain ⟨A4, c4, rfl⟩ := hm.own.shape
    have hml : M.length ≤ i := by
      have h := puts_len12 ho.puts
      rw [List.length_take, List.length_nil] at h
      omega
    have HML : Hid (M.length ≤ 1000) := by show _ ≤ _; omega
    clear hm ho
    by_cases hlt : i < rows.length
    · obtain ⟨r, hr⟩ : ∃ r, rows[i]? = some r := ⟨_, List.getElem?_eq_getElem hlt⟩
      obtain ⟨ad, rfl, hc⟩ := row_at11 HV.out hr
      obtain ⟨a0, a1, a2, a3, a4, a5, a6, a7, a8⟩ := hc wr HM.out.turn
      have hil : (i : Int) < rows.length := by omega
      have HRX := Lib.hid hr
      have HM1 := Lib.hid (HM.out.alloc (.cells (cells11 r) 51))
      obtain ⟨g, hg⟩ : ∃ g, g = wr.heap.size := ⟨_, rfl⟩
      have HBR : Hid (Box (wr.alloc (.cells (cells11 r) 51)) g 51 (cells11 r)) := by rw [hg]; exact Box.new wr _ _
      have HGG := Lib.hid hg
      clear hg
      by_cases h0 : M.length = 0
      · have hM0 := List.eq_nil_of_length_eq_zero h0
        have HON : Hid (OnceR rows (i + 1) (M ++ [r])) := once_new HNF.out HO.out hr (fun z hz => by rw [hM0] at hz; cases hz)
        rw [h0] at HM HM1 hml ⊢
        have HL0 := Lib.hid h0
        have hneg : ((0 : Int) - 1) < 0 := by decide
        clear hc hr h0 hM0
        go_wp2_with fail
        go_quiet (fail)
        obtain ⟨wq, hwq⟩ : ∃ wq, wq = (wr.alloc (.cells (cells11 r) 51)).drewN nq := ⟨_, rfl⟩
        have HTQ : Hid (Turn (fun _ => False) (wr.alloc (.cells (cells11 r) 51)) wq) := by rw [hwq]; exact (Turn.refl _ _).drewN nq
        rw [← hwq, ← HGG.out]
        have HMQ := Lib.hid (HM1.out.later HTQ.out)
        have hbq := HBR.out.turn HTQ.out (fun f => f)
        have b0 := hbq.cell 0
        have b1 := hbq.cell 1
        have b2 := hbq.cell 2
        have b3 := hbq.cell 3
        have b4 := hbq.cell 4
        have b5 := hbq.cell 5
        have b6 := hbq.cell 6
        have b7 := hbq.cell 7
        have b8 := hbq.cell 8
        clear hwq hbq
        have HM2 := Lib.hid (HMQ.out.alloc (.cells (ER.enc r).toArray 51))
        have HX := Lib.hid (one_row ER 51 wq r)
        go_wp2_with (at_builtin; refine wpList_rows11 _ rfl _ _ rfl _ M rfl HM2.out.own _ rfl [r] HX.out (by have := HML.out; simp only [List.length_cons, List.length_nil]; omega) ?_; intro A3 n3 c3 w3 ho ht hn; have HN3 := Lib.hid (HM2.out.step ho ht hn); clear ho ht hn)
        go_roundw
        case rel => exact ⟨i + 1, M ++ [r], by go_num, hlt, HN3.out, HON.out⟩
        case measure => simp [intOf]; omega
      · obtain ⟨n, hn⟩ : ∃ n, M.length = n + 1 := ⟨M.length - 1, by omega⟩
        obtain ⟨t, z, hM, htl, hz, hgl⟩ := last_at hn
        rw [hn] at HM HM1 hml ⊢
        have HLN := Lib.hid hn
        obtain ⟨ed, rfl, hce⟩ := row_at11 HM.out.own.rd hz
        obtain ⟨d0, d1, d2, d3, d4, d5, d6, d7, d8⟩ := hce (wr.alloc (.cells (cells11 r) 51)) ((Turn.refl _ wr).alloc _)
        have hsub : ((n + 1 : Nat) : Int) - 1 = (n : Int) := by omega
        have hn0 : ¬ ((n : Int) < 0) := by omega
        have hn1 : (n : Int) < (n : Int) + 1 := by omega
        have hgd := fun X Y => guard_key9 .neq X Y z.k r.k
        have heq := run_neq_key z.k r.k
        by_cases hk : z.k = r.k
        · rw [decide_eq_true hk, Bool.not_true] at heq
          have HZ := Lib.hid hz
          have HPS : Hid (putsR [] (rows.take (i + 1)) = (mergeC z.c r.c).map fun c => t ++ [⟨r.k, c⟩]) := once_same (by rw [← hM]; exact HO.out) hr hk
          have HSET : Hid (∀ d : Cl, M.set n ⟨z.k, d⟩ = t ++ [⟨r.k, d⟩]) := fun d => by rw [hM, ← htl, hk]; simp
          have HKO : Hid (okC z.c ∧ okC r.c) := by
            refine ⟨?_, (HOK.out r (List.mem_of_getElem? hr)).2⟩
            have h := puts_fine (fun y hy => HOK.out y (List.mem_of_mem_take hy)) (fun y hy => by cases hy) HO.out.puts
            exact (h z (List.mem_of_getElem? hz)).2
          have HMC : Hid (∀ W, Calls Try.prog 29 #[.agg #[.int .i64 z.c.n, .int .i64 z.c.s, .int .i64 z.c.lo, .int .i64 z.c.hi], .agg #[.int .i64 r.c.n, .int .i64 r.c.s, .int .i64 r.c.lo, .int .i64 r.c.hi]] W fun e w' => e = .returned (outC (mergeC z.c r.c)) ∧ Turn (fun _ => False) W w') := fun W => merge_any z.c.n z.c.s z.c.lo z.c.hi r.c.n r.c.s r.c.lo r.c.hi W HKO.out.1 HKO.out.2
          have HZW : Hid (∀ W, Turn (fun _ => False) wr W → RowAt W (ed.add (n * 9)) z) := hce
          unfold RowAt at HZW
          generalize mergeC z.c r.c = o at *
          obtain ⟨n2, s2, lo2, hi2, ho2, hg2⟩ := outC_shape o
          rw [ho2] at HMC
          have HG2 := Lib.hid hg2
          obtain ⟨bb, hbb⟩ : ∃ bb, bb = o.isSome := ⟨_, rfl⟩
          rw [← hbb] at HMC
          have HBS := Lib.hid hbb
          clear hc hr h0 hM htl hz hgl hce hk hn ho2 hg2 hbb
          go_wp2_with fail
          go_quiet (fail)
          obtain ⟨wq, hwq⟩ : ∃ wq, wq = (wr.alloc (.cells (cells11 r) 51)).drewN nq := ⟨_, rfl⟩
          have HTQ : Hid (Turn (fun _ => False) (wr.alloc (.cells (cells11 r) 51)) wq) := by rw [hwq]; exact (Turn.refl _ _).drewN nq
          have HTRQ : Hid (Turn (fun _ => False) wr wq) := ((Turn.refl (fun _ => False) wr).alloc _).trans HTQ.out (fun _ _ f => f)
          rw [← hwq, ← HGG.out]
          have HMQ := Lib.hid (HM1.out.later HTQ.out)
          have HBQ := Lib.hid (HBR.out.turn HTQ.out (fun f => f))
          clear hwq d0 d1 d2 d3 d4 d5 d6 d7 d8 a0 a1 a2 a3 a4 a5 a6 a7 a8 heq hgd
          go_wp2_with fail
          refine drawn_region (fun W => Turn (fun _ => False) wq W) [] (by kernel_rfl) ?_
          have hS0 : Turn (fun _ => False) wq (World.drew wq) := (Turn.refl _ wq).drew
          generalize World.drew wq = wd at *
          refine drawn_take 0 36 (.slice (some ed) (n + 1) c4) rfl rfl (by kernel_rfl) (by kernel_rfl) (by kernel_rfl) (by kernel_rfl) (fun _ _ _ h => h) (by rfl) (by assumption) (by intro w hSw; obtain hS1 := hSw; go_simp) ?_
          try simp only [List.setIfInBounds_toArray, List.set_cons_zero, List.set_cons_succ]
          refine drawn_take 1 37 (.int .i64 (n : Int)) rfl rfl (by kernel_rfl) (by kernel_rfl) (by kernel_rfl) (by kernel_rfl) (fun _ _ _ h => h) (by rfl) (by assumption) (by intro w hSw; obtain hS1 := hSw; go_simp) ?_
          try simp only [List.setIfInBounds_toArray, List.set_cons_zero, List.set_cons_succ]
          refine drawn_take 2 38 (.pointer (some (ed.add (n * 9)))) rfl rfl (by kernel_rfl) (by kernel_rfl) (by kernel_rfl) (by kernel_rfl) (fun _ _ _ h => h) (by rfl) (by assumption) (by intro w hSw; obtain hS1 := hSw; go_simp) ?_
          try simp only [List.setIfInBounds_toArray, List.set_cons_zero, List.set_cons_succ]
          refine drawn_take 3 39 (.pointer (some ⟨(ed.add (n * 9)).block, (ed.add (n * 9)).off + 5, none⟩)) rfl rfl (by kernel_rfl) (by kernel_rfl) (by kernel_rfl) (by kernel_rfl) (fun _ _ _ h => h) (by rfl) (by assumption) (by intro w hSw; obtain hS1 := hSw; go_simp) ?_
          try simp only [List.setIfInBounds_toArray, List.set_cons_zero, List.set_cons_succ]
          refine drawn_take 4 40 (.agg #[.int .i64 z.c.n, .int .i64 z.c.s, .int .i64 z.c.lo, .int .i64 z.c.hi]) rfl rfl (by kernel_rfl) (by kernel_rfl) (by kernel_rfl) (by kernel_rfl) (fun _ _ _ h => h) (by rfl) (by assumption) (by intro w hSw; obtain ⟨a0, a1, a2, a3, a4, a5, a6, a7, a8⟩ := HZW.out w (HTRQ.out.trans hSw (fun _ _ f => f)); clear hSw; go_simp) ?_
          try simp only [List.setIfInBounds_toArray, List.set_cons_zero, List.set_cons_succ]
          refine drawn_take 5 41 (.pointer (some ⟨g, 5, none⟩)) rfl rfl (by kernel_rfl) (by kernel_rfl) (by kernel_rfl) (by kernel_rfl) (fun _ _ _ h => h) (by rfl) (by assumption) (by intro w hSw; obtain hS1 := hSw; go_simp) ?_
          try simp only [List.setIfInBounds_toArray, List.set_cons_zero, List.set_cons_succ]
          refine drawn_take 6 42 (.agg #[.int .i64 r.c.n, .int .i64 r.c.s, .int .i64 r.c.lo, .int .i64 r.c.hi]) rfl rfl (by kernel_rfl) (by kernel_rfl) (by kernel_rfl) (by kernel_rfl) (fun _ _ _ h => h) (by rfl) (by assumption) (by intro w hSw; have hb := HBQ.out.turn hSw (fun f => f); have a5 := hb.cell 5; have a6 := hb.cell 6; have a7 := hb.cell 7; have a8 := hb.cell 8; clear hSw hb; go_simp) ?_
          try simp only [List.setIfInBounds_toArray, List.set_cons_zero, List.set_cons_succ]
          refine drawn_any [7, 11] (by kernel_rfl) (by simp) ?_
          refine drawn_cons rfl (fun K hK => ?_) (drawn_cons rfl (fun K hK => ?_) drawn_nil)
          ·
            go_simp
            refine (HMC.out _).mono ?_
            rintro e w3 ⟨rfl, t3⟩
            have hS3 := hS0.trans t3 (fun _ _ f => f)
            refine hK.out _ _ _ hS3 ?_
            clear hK K
            try simp only [List.setIfInBounds_toArray, List.set_cons_zero, List.set_cons_succ]
            refine drawn_take 8 35 (.tuple #[.agg #[.int .i64 n2, .int .i64 s2, .int .i64 lo2, .int .i64 hi2], .bool bb]) rfl rfl (by kernel_rfl) (by kernel_rfl) (by kernel_rfl) (by kernel_rfl) (fun _ _ _ h => h) (by rfl) (by assumption) (by intro w hSw; go_simp) ?_
            try simp only [List.setIfInBounds_toArray, List.set_cons_zero, List.set_cons_succ]
            refine drawn_take 9 44 (.agg #[.int .i64 n2, .int .i64 s2, .int .i64 lo2, .int .i64 hi2]) rfl rfl (by kernel_rfl) (by kernel_rfl) (by kernel_rfl) (by kernel_rfl) (fun _ _ _ h => h) (by rfl) (by assumption) (by intro w hSw; go_simp) ?_
            try simp only [List.setIfInBounds_toArray, List.set_cons_zero, List.set_cons_succ]
            refine drawn_take 10 45 (.bool bb) rfl rfl (by kernel_rfl) (by kernel_rfl) (by kernel_rfl) (by kernel_rfl) (fun _ _ _ h => h) (by rfl) (by assumption) (by intro w hSw; go_simp) ?_
            try simp only [List.setIfInBounds_toArray, List.set_cons_zero, List.set_cons_succ]
            refine drawn_any [11] (by kernel_rfl) (by simp) ?_
            refine drawn_cons rfl (fun K hK => ?_) drawn_nil
            go_simp
            obtain ⟨g6, hg6⟩ : ∃ g6, g6 = w3.heap.size := ⟨_, rfl⟩
            have hgr : wq.heap.size ≤ g6 := by rw [hg6]; exact hS3.size
            obtain ⟨w4, hw4⟩ : ∃ w4, w4 = w3.alloc (.cells #[.int .i64 0, .int .i64 0, .int .i64 0, .int .i64 0] 47) := ⟨_, rfl⟩
            have hb4 : Box w4 g6 47 #[.int .i64 0, .int .i64 0, .int .i64 0, .int .i64 0] := by rw [hw4, hg6]; exact Box.new w3 _ _
            have hS4 : Turn (fun _ => False) wq w4 := by rw [hw4]; exact hS3.alloc _
            rw [← hw4, ← hg6]
            refine hK.out _ _ _ hS4 ?_
            clear hK K hS3 hw4 hg6
            try simp only [List.setIfInBounds_toArray, List.set_cons_zero, List.set_cons_succ]
            refine drawn_any [12] (by kernel_rfl) (by simp) ?_
            refine drawn_cons rfl (fun K hK => ?_) drawn_nil
            have HB4 : Hid (Box w4 g6 47 #[.int .i64 0, .int .i64 0, .int .i64 0, .int .i64 0]) := hb4
            have HTH : Hid (w4.there g6 0 4) := HB4.out.there (Nat.le_refl 4)
            refine put_box g6 0 (ca ⟨n2, s2, lo2, hi2⟩) HTH.out rfl rfl HSI.out (cell_one11 _) ?_
            obtain ⟨w5, hw5⟩ : ∃ w5, w5 = w4.setCells g6 0 (ca ⟨n2, s2, lo2, hi2⟩).toList := ⟨_, rfl⟩
            have HB6 : Hid (Box w5 g6 47 (ca ⟨n2, s2, lo2, hi2⟩)) := by rw [hw5]; exact HB4.out.all _ rfl
            have hS5 : Turn (fun _ => False) wq w5 := by rw [hw5]; exact hS4.trans (turn_setCells (S := fun k => k = g6) rfl _ _ _) (fun k hk e => by have := hgr; omega)
            have e5 : w4.setCells g6 0 [.int .i64 n2, .int .i64 s2, .int .i64 lo2, .int .i64 hi2] = w5 := hw5.symm
            try rw [← hw5]
            try rw [e5]
            refine hK.out _ _ _ hS5 ?_
            clear hK K hw5 e5 HB4 HTH hb4 hS4
            try simp only [List.setIfInBounds_toArray, List.set_cons_zero, List.set_cons_succ]
            refine drawn_last1 13 9 (.bool bb) rfl rfl (by kernel_rfl) (by kernel_rfl) (by rfl) (by intro w; go_simp) hS5 ?_
            try simp only [List.setIfInBounds_toArray, List.set_cons_zero, List.set_cons_succ]
            have HF := Lib.hid hS5
            have HMF := Lib.hid (HMQ.out.later hS5)
            clear hS5
            cases o with
            | none =>
              have eb : bb = false := HBS.out
              subst eb
              have HE : Hid (putsR [] rows = none) := puts_halt HPS.out
              go_wp2
              go_ret2
              exact ⟨_, by rw [HE.out]; rfl, by rw [HE.out]; exact RdE.nil _, HMF.out.turn⟩
            | some d =>
              have eb : bb = true := HBS.out
              subst eb
              have ed2 : d = ⟨n2, s2, lo2, hi2⟩ := HG2.out
              subst ed2
              have HON : Hid (OnceR rows (i + 1) (t ++ [⟨r.k, ⟨n2, s2, lo2, hi2⟩⟩])) := OnceR.of HNF.out HPS.out
              obtain ⟨⟨b0, b1, b2, b3⟩, _⟩ := box_cells HB6.out
              go_wp2_with (with_reducible refine wpList_cell11 (op := ⟨none, .store 47 (.tmp 52) (.tmp 50), _, _, _, _⟩) rfl _ _ rfl HMF.out.own n z n2 s2 lo2 hi2 HZ.out rfl rfl ?_; intro w9 ho9 ht9; have HO9 := Lib.hid ho9; have HT9 := Lib.hid ht9; clear ho9 ht9)
              have hn9 := HMF.out.step HO9.out (HT9.out.mono (fun k _ e => by rw [e]; rfl)) (.inl rfl)
              rw [HSET.out] at hn9
              exact ⟨⟨i + 1, _, by go_num, hlt, hn9, HON.out⟩, by simp [intOf]; omega⟩
          · go_simp
            obtain ⟨g6, hg6⟩ : ∃ g6, g6 = wd.heap.size := ⟨_, rfl⟩
            have hgr : wq.heap.size ≤ g6 := by rw [hg6]; exact hS0.size
            obtain ⟨wa, hwa⟩ : ∃ wa, wa = wd.alloc (.cells #[.int .i64 0, .int .i64 0, .int .i64 0, .int .i64 0] 47) := ⟨_, rfl⟩
            have HBA : Hid (True ∧ Box wa g6 47 #[.int .i64 0, .int .i64 0, .int .i64 0, .int .i64 0]) := ⟨trivial, by rw [hwa, hg6]; exact Box.new wd _ _⟩
            have hSa : Turn (fun _ => False) wq wa := by rw [hwa]; exact hS0.alloc _
            rw [← hwa, ← hg6]
            refine hK.out _ _ _ hSa ?_
            clear hK K hS0 hwa hg6
            try simp only [List.setIfInBounds_toArray, List.set_cons_zero, List.set_cons_succ]
            refine drawn_any [7] (by kernel_rfl) (by simp) ?_
            refine drawn_cons rfl (fun K hK => ?_) drawn_nil
            have hS0 := hSa
            clear hSa
            go_simp
            refine (HMC.out _).mono ?_
            rintro e w4 ⟨rfl, t3⟩
            have hS4 := hS0.trans t3 (fun _ _ f => f)
            have HB4b : Hid (True ∧ Box w4 g6 47 #[.int .i64 0, .int .i64 0, .int .i64 0, .int .i64 0]) := ⟨trivial, HBA.out.2.turn t3 (fun f => f)⟩
            refine hK.out _ _ _ hS4 ?_
            clear hK K t3 HBA hS0
            try simp only [List.setIfInBounds_toArray, List.set_cons_zero, List.set_cons_succ]
            refine drawn_take 8 35 (.tuple #[.agg #[.int .i64 n2, .int .i64 s2, .int .i64 lo2, .int .i64 hi2], .bool bb]) rfl rfl (by kernel_rfl) (by kernel_rfl) (by kernel_rfl) (by kernel_rfl) (fun _ _ _ h => h) (by rfl) (by assumption) (by intro w hSw; go_simp) ?_
            try simp only [List.setIfInBounds_toArray, List.set_cons_zero, List.set_cons_succ]
            refine drawn_take 9 44 (.agg #[.int .i64 n2, .int .i64 s2, .int .i64 lo2, .int .i64 hi2]) rfl rfl (by kernel_rfl) (by kernel_rfl) (by kernel_rfl) (by kernel_rfl) (fun _ _ _ h => h) (by rfl) (by assumption) (by intro w hSw; go_simp) ?_
            try simp only [List.setIfInBounds_toArray, List.set_cons_zero, List.set_cons_succ]
            refine drawn_take 10 45 (.bool bb) rfl rfl (by kernel_rfl) (by kernel_rfl) (by kernel_rfl) (by kernel_rfl) (fun _ _ _ h => h) (by rfl) (by assumption) (by intro w hSw; go_simp) ?_
            try simp only [List.setIfInBounds_toArray, List.set_cons_zero, List.set_cons_succ]
            refine drawn_any [12] (by kernel_rfl) (by simp) ?_
            refine drawn_cons rfl (fun K hK => ?_) drawn_nil
            have hb4 := HB4b.out.2
            have HB4 : Hid (Box w4 g6 47 #[.int .i64 0, .int .i64 0, .int .i64 0, .int .i64 0]) := hb4
            have HTH : Hid (w4.there g6 0 4) := HB4.out.there (Nat.le_refl 4)
            refine put_box g6 0 (ca ⟨n2, s2, lo2, hi2⟩) HTH.out rfl rfl HSI.out (cell_one11 _) ?_
            obtain ⟨w5, hw5⟩ : ∃ w5, w5 = w4.setCells g6 0 (ca ⟨n2, s2, lo2, hi2⟩).toList := ⟨_, rfl⟩
            have HB6 : Hid (Box w5 g6 47 (ca ⟨n2, s2, lo2, hi2⟩)) := by rw [hw5]; exact HB4.out.all _ rfl
            have hS5 : Turn (fun _ => False) wq w5 := by rw [hw5]; exact hS4.trans (turn_setCells (S := fun k => k = g6) rfl _ _ _) (fun k hk e => by have := hgr; omega)
            have e5 : w4.setCells g6 0 [.int .i64 n2, .int .i64 s2, .int .i64 lo2, .int .i64 hi2] = w5 := hw5.symm
            try rw [← hw5]
            try rw [e5]
            refine hK.out _ _ _ hS5 ?_
            clear hK K hw5 e5 HB4 HTH hb4 hS4
            try simp only [List.setIfInBounds_toArray, List.set_cons_zero, List.set_cons_succ]
            refine drawn_last1 13 9 (.bool bb) rfl rfl (by kernel_rfl) (by kernel_rfl) (by rfl) (by intro w; go_simp) hS5 ?_
            try simp only [List.setIfInBounds_toArray, List.set_cons_zero, List.set_cons_succ]
            have HF := Lib.hid hS5
            have HMF := Lib.hid (HMQ.out.later hS5)
            clear hS5
            cases o with
            | none =>
              have eb : bb = false := HBS.out
              subst eb
              have HE : Hid (putsR [] rows = none) := puts_halt HPS.out
              go_wp2
              go_ret2
              exact ⟨_, by rw [HE.out]; rfl, by rw [HE.out]; exact RdE.nil _, HMF.out.turn⟩
            | some d =>
              have eb : bb = true := HBS.out
              subst eb
              have ed2 : d = ⟨n2, s2, lo2, hi2⟩ := HG2.out
              subst ed2
              have HON : Hid (OnceR rows (i + 1) (t ++ [⟨r.k, ⟨n2, s2, lo2, hi2⟩⟩])) := OnceR.of HNF.out HPS.out
              obtain ⟨⟨b0, b1, b2, b3⟩, _⟩ := box_cells HB6.out
              go_wp2_with (with_reducible refine wpList_cell11 (op := ⟨none, .store 47 (.tmp 52) (.tmp 50), _, _, _, _⟩) rfl _ _ rfl HMF.out.own n z n2 s2 lo2 hi2 HZ.out rfl rfl ?_; intro w9 ho9 ht9; have HO9 := Lib.hid ho9; have HT9 := Lib.hid ht9; clear ho9 ht9)
              have hn9 := HMF.out.step HO9.out (HT9.out.mono (fun k _ e => by rw [e]; rfl)) (.inl rfl)
              rw [HSET.out] at hn9
              exact ⟨⟨i + 1, _, by go_num, hlt, hn9, HON.out⟩, by simp [intOf]; omega⟩
        · have HON : Hid (OnceR rows (i + 1) (M ++ [r])) := once_new HNF.out HO.out hr (fun y hy => by rw [hgl] at hy; cases hy; exact hk)
          rw [decide_eq_false hk, Bool.not_false] at heq
          clear hc hr h0 hM htl hz hgl hce hk hn
          go_wp2_with fail
          go_quiet (fail)
          obtain ⟨wq, hwq⟩ : ∃ wq, wq = (wr.alloc (.cells (cells11 r) 51)).drewN nq := ⟨_, rfl⟩
          have HTQ : Hid (Turn (fun _ => False) (wr.alloc (.cells (cells11 r) 51)) wq) := by rw [hwq]; exact (Turn.refl _ _).drewN nq
          rw [← hwq, ← HGG.out]
          have HMQ := Lib.hid (HM1.out.later HTQ.out)
          have hbq := HBR.out.turn HTQ.out (fun f => f)
          have b0 := hbq.cell 0
          have b1 := hbq.cell 1
          have b2 := hbq.cell 2
          have b3 := hbq.cell 3
          have b4 := hbq.cell 4
          have b5 := hbq.cell 5
          have b6 := hbq.cell 6
          have b7 := hbq.cell 7
          have b8 := hbq.cell 8
          clear hwq hbq
          have HM2 := Lib.hid (HMQ.out.alloc (.cells (ER.enc r).toArray 51))
          have HX := Lib.hid (one_row ER 51 wq r)
          go_wp2_with (at_builtin; refine wpList_rows11 _ rfl _ _ rfl _ M rfl HM2.out.own _ rfl [r] HX.out (by have := HML.out; simp only [List.length_cons, List.length_nil]; omega) ?_; intro A3 n3 c3 w3 ho ht hn; have HN3 := Lib.hid (HM2.out.step ho ht hn); clear ho ht hn)
          go_roundw
          case rel => exact ⟨i + 1, M ++ [r], by go_num, hlt, HN3.out, HON.out⟩
          case measure => simp [intOf]; omega
    · obtain rfl : i = rows.length := by omega
      have HE : Hid (putsR [] rows = some M) := by have h := HO.out.puts; rwa [List.take_length] at h
      go_wp2
      go_ret2
      exact ⟨_, by rw [HE.out]; rfl, by rw [HE.out]; exact HM.out.own.rd, HM.out.turn⟩

set_option maxHeartbeats 2000000 in
theorem merge_any11 (v : Value) (ls : List (List R11)) (w : World) (hv : SVs11 w v ls) (hl : ls.flatten.length ≤ 1000) (hn : ls.length ≤ 1000) : Calls Try.prog 17 #[v] w fun e w' => Seg11 w (mergeR ls) 6 e w' := by
  have HTO := Lib.hid (together_any11 ls.length v ls w (Nat.le_refl _) hv hl hn)
  have HME := Lib.hid hv.mem
  obtain ⟨A, c, rfl⟩ := hv.shape
  have HLL : Hid (ls.flatten.length ≤ 1000) := hl
  clear hv hl hn
  go_enter Try.func17, Try.ntmps17
  go_wp2_with fail
  refine HTO.out.mono ?_
  rintro e w1 ⟨v1, rows, rfl, hr, hg, t1⟩
  have HT1 := Lib.hid t1
  have HEQ : Hid (putsR [] rows = mergeR ls) := puts_cells hg.cells
  have HOK : Hid (∀ r ∈ rows, okRow r = true ∧ okC r.c) := fun r h => HME.out r (hg.mem r h)
  have HLE : Hid (rows.length ≤ 1000) := by show _ ≤ _; rw [hg.len]; exact HLL.out
  have HON := Lib.hid (once_any11 v1 rows w1 hr hg.nofall HOK.out HLE.out)
  obtain ⟨B, d, rfl⟩ := hr.shape
  clear hr hg t1 HTO
  go_wp2_with fail
  refine HON.out.mono ?_
  rintro e w2 ⟨v2, rfl, hr2, t2⟩
  have HT2 := Lib.hid (HT1.out.trans t2 (fun _ _ f => f))
  have HR2 := Lib.hid hr2
  obtain ⟨B2, d2, rfl⟩ := hr2.shape
  have HRI : Hid (∀ m, putsR [] rows = some m → rightR m = true ∧ (∀ r ∈ m, okC r.c) ∧ m.length ≤ 1000) := fun m h => puts_right HOK.out h HLE.out
  clear hr2 t2 HON
  generalize putsR [] rows = o at *
  cases o with
  | none =>
    simp only [Option.isSome_none]
    go_wp2
    go_ret2
    exact ⟨_, by rw [← HEQ.out]; rfl, by rw [← HEQ.out]; exact SV11.nil _, HT2.out⟩
  | some m =>
    simp only [Option.isSome_some]
    go_wp2
    go_ret2
    exact ⟨_, by rw [← HEQ.out]; rfl, by rw [← HEQ.out]; exact SV11.new HR2.out (HRI.out m rfl), HT2.out.alloc _⟩

end Go.Proofs.Ytnnlgeldjjknmaa

/-
  Stage 11: a map of cells by their keys, in memory: looked up, stored into, ranged over.
-/
namespace Go.Proofs.Ytnnlgeldjjknmaa
open Go.RowKit
open Go.ChangeMaps (setBlock)

set_option maxRecDepth 100000

/-- A cell stored at a key. -/
def setR (k : K9) (c : Cl) : List R11 → List R11
  | [] => [⟨k, c⟩]
  | r :: t => if r.k = k then ⟨k, c⟩ :: t else r :: setR k c t
theorem set_find (k : K9) (c : Cl) : ∀ es, findR k (setR k c es) = some c
  | [] => by simp [setR, findR]
  | r :: t => by
    unfold setR
    by_cases h : r.k = k
    · rw [if_pos h]; simp [findR]
    · rw [if_neg h]
      show (if r.k = k then _ else _) = _
      rw [if_neg h]
      exact set_find k c t
theorem set_other {k k' : K9} (c : Cl) (h : k' ≠ k) : ∀ es, findR k' (setR k c es) = findR k' es
  | [] => by
    show (if k = k' then _ else _) = _
    rw [if_neg (Ne.symm h)]
  | r :: t => by
    unfold setR
    by_cases e : r.k = k
    · rw [if_pos e]
      show (if k = k' then _ else _) = (if r.k = k' then _ else _)
      rw [if_neg (Ne.symm h), if_neg (by rw [e]; exact Ne.symm h)]
    · rw [if_neg e]
      show (if r.k = k' then _ else _) = (if r.k = k' then _ else _)
      rw [set_other c h t]
theorem set_keys {k : K9} (c : Cl) : ∀ {es : List R11} {r : R11}, r ∈ setR k c es → r.k = k ∨ ∃ x ∈ es, x.k = r.k
  | [], r, h => by
    unfold setR at h
    exact .inl (by rw [List.mem_singleton.1 h])
  | x :: t, r, h => by
    unfold setR at h
    split at h
    · rcases List.mem_cons.1 h with rfl | h
      · exact .inl rfl
      · exact .inr ⟨r, List.mem_cons_of_mem _ h, rfl⟩
    · rcases List.mem_cons.1 h with rfl | h
      · exact .inr ⟨_, List.mem_cons_self .., rfl⟩
      · exact (set_keys c h).imp id fun ⟨y, hy, e⟩ => ⟨y, List.mem_cons_of_mem _ hy, e⟩
/-- Each key once. -/
def OnceK (es : List R11) : Prop := es.Pairwise fun a b => a.k ≠ b.k
theorem set_once {k : K9} (c : Cl) : ∀ {es : List R11}, OnceK es → OnceK (setR k c es)
  | [], _ => List.pairwise_singleton _ _
  | r :: t, h => by
    obtain ⟨h1, h2⟩ := List.pairwise_cons.1 h
    unfold setR
    split
    · rename_i e
      exact List.pairwise_cons.2 ⟨fun y hy => by rw [← e]; exact h1 y hy, h2⟩
    · rename_i e
      refine List.pairwise_cons.2 ⟨fun y hy => ?_, set_once c h2⟩
      rcases set_keys c hy with e2 | ⟨x, hx, e2⟩
      · rw [e2]; exact e
      · rw [← e2]; exact h1 x hx
theorem set_len (k : K9) (c : Cl) : ∀ es : List R11, (setR k c es).length ≤ es.length + 1
  | [] => by simp [setR]
  | r :: t => by
    unfold setR
    split
    · simp
    · have := set_len k c t
      simp only [List.length_cons]; omega
theorem set_at {k : K9} {c : Cl} : ∀ {es : List R11} {j : Nat}, (es.findIdx? fun r => decide (r.k = k)) = some j → setR k c es = es.set j ⟨k, c⟩
  | [], j, h => by simp at h
  | r :: t, j, h => by
    rw [List.findIdx?_cons] at h
    unfold setR
    by_cases e : r.k = k
    · rw [decide_eq_true e] at h
      cases h
      rw [if_pos e]
      rfl
    · rw [decide_eq_false e] at h
      rw [if_neg e]
      cases hf : (t.findIdx? fun r => decide (r.k = k)) with
      | none => rw [hf] at h; cases h
      | some i =>
        rw [hf] at h
        cases h
        rw [set_at hf]
        rfl
theorem set_new {k : K9} {c : Cl} : ∀ {es : List R11}, (∀ r ∈ es, r.k ≠ k) → setR k c es = es ++ [⟨k, c⟩]
  | [], _ => rfl
  | r :: t, h => by
    unfold setR
    rw [if_neg (h r (List.mem_cons_self ..)), set_new (fun y hy => h y (List.mem_cons_of_mem _ hy))]
    rfl

/-- An entry. -/
def entR (p : R11 × Nat) : MapEntry := { key := kv9 p.1.k, val := cv p.1.c, born := p.2 }
def entsR (es : List R11) : Array MapEntry := (es.zipIdx.map entR).toArray
/-- A map in memory, by its entries in the order in which they came. -/
def MapIs (w : World) (b : Nat) (es : List R11) : Prop := w.heap[b]? = some (.map (entsR es) es.length)
theorem MapIs.lt {w : World} {b : Nat} {es : List R11} (h : MapIs w b es) : b < w.heap.size := (Array.getElem?_eq_some_iff.1 h).1
theorem MapIs.turn {S : Nat → Prop} {w w' : World} {b : Nat} {es : List R11} (h : MapIs w b es) (ht : Turn S w w') (hs : ¬ S b) : MapIs w' b es := (ht.block b h.lt hs).trans h
theorem MapIs.new (w : World) : MapIs (w.alloc (.map #[] 0)) w.heap.size [] := heap_alloc_new w _

theorem run_equal_key (p q : K9) (w : World) : (Op.equal 44 (kv9 p) (kv9 q)).run Try.prog w = .ok (decide (p = q)) w := eq_key9 9997 p q w
theorem asking_run (k : K9) (w : World) : ∀ (es : List R11) (n i : Nat), (Instr.findAsking 44 (kv9 k) ((es.zipIdx n).map entR) i).run Try.prog w = .ok (match es.findIdx? fun r => decide (r.k = k) with | some j => (es[j]?).map fun r => (i + j, cv r.c) | none => none) w
  | [], n, i => by simp [Instr.findAsking]
  | r :: t, n, i => by
    rw [List.zipIdx_cons, List.map_cons, Instr.findAsking]
    simp only [Sem.run_bind]
    rw [show (entR (r, n)).key = kv9 r.k from rfl, run_equal_key]
    rw [List.findIdx?_cons]
    by_cases e : k = r.k
    · rw [decide_eq_true e, decide_eq_true e.symm]
      simp [entR, Result.andThen]
    · rw [decide_eq_false e, decide_eq_false (fun h => e h.symm)]
      simp only [Result.andThen, Bool.false_eq_true, if_false]
      rw [asking_run k w t (n + 1) (i + 1)]
      cases hf : t.findIdx? fun r => decide (r.k = k) with
      | none => rfl
      | some j => simp [Nat.add_assoc, Nat.add_comm 1 j]
theorem find_run (k : K9) (es : List R11) (w : World) : (Instr.findKey 44 (kv9 k) (entsR es).toList).run Try.prog w = .ok (match es.findIdx? fun r => decide (r.k = k) with | some j => (es[j]?).map fun r => (j, cv r.c) | none => none) w := by
  rw [run_findKey_eq w (by kernel_rfl)]
  have h := asking_run k w es 0 0
  simp only [Nat.zero_add] at h
  exact h
theorem check_run (em : Bool) (k : K9) (w : World) : (Instr.checkKey em 10000 44 (kv9 k)).run Try.prog w = .ok () w := by
  have u2 := Try.underlying2
  have i2 := Try.isAgg2
  have z2 := Try.sizeOf2
  have u3 := Try.underlying9
  have a3' := Try.isAgg9
  have z3 := Try.sizeOf9
  have i4 := Try.isAgg42
  have z4 := Try.sizeOf42
  have hs : ∀ (d : Nat) (a : List UInt8), (Instr.checkKey em (d + 1) 9 (sv9 a)).run Try.prog w = .ok () w := fun d a => by simp [Instr.checkKey, run_underlying u3]
  have hi : ∀ (d : Nat) (a : Int), (Instr.checkKey em (d + 1) 2 (.int .i64 a)).run Try.prog w = .ok () w := fun d a => by simp [Instr.checkKey, run_underlying u2]
  have ha : ∀ (d : Nat) (a b c e : List UInt8), (Instr.checkKey em (d + 2) 42 (.agg #[sv9 a, sv9 b, sv9 c, sv9 e])).run Try.prog w = .ok () w := fun d a b c e => by
    rw [Instr.checkKey]
    simp only [Sem.run_bind, run_underlying Try.underlying42, Result.andThen_ok]
    simp only [Std.Legacy.Range.forIn_eq_forIn_range', Std.Legacy.Range.size, Nat.sub_zero, Nat.add_sub_cancel, Nat.div_one, List.range'_succ, List.range'_zero, List.forIn_cons, List.forIn_nil]
    go_simp
  unfold kv9
  rw [show (10000 : Nat) = 9997 + 3 from rfl, Instr.checkKey]
  simp only [Sem.run_bind, run_underlying Try.underlying44, Result.andThen_ok]
  go_simp

theorem idx_find (k : K9) : ∀ es : List R11, (match es.findIdx? fun r => decide (r.k = k) with | some j => (es[j]?).map fun r => r.c | none => none) = findR k es
  | [] => rfl
  | r :: t => by
    have ih := idx_find k t
    rw [List.findIdx?_cons]
    show _ = if r.k = k then some r.c else findR k t
    by_cases e : r.k = k
    · rw [decide_eq_true e, if_pos e]; rfl
    · rw [decide_eq_false e, if_neg e, ← ih]
      cases t.findIdx? fun r => decide (r.k = k) with
      | none => rfl
      | some j => rfl
theorem idx_at {k : K9} {es : List R11} {j : Nat} (h : (es.findIdx? fun r => decide (r.k = k)) = some j) : ∃ r, es[j]? = some r ∧ r.k = k := by
  obtain ⟨hj, h1, _⟩ := List.findIdx?_eq_some_iff_getElem.1 h
  exact ⟨_, List.getElem?_eq_getElem hj, by simpa using h1⟩
theorem idx_none {k : K9} {es : List R11} (h : (es.findIdx? fun r => decide (r.k = k)) = none) : ∀ r ∈ es, r.k ≠ k := fun r hr e => by
  have := List.findIdx?_eq_none_iff.1 h r hr
  simp [e] at this
theorem zero_cell11 (w : World) : (zeroValue 47).run Try.prog w = .ok (cv Cl.zero) w := by kernel_rfl
/-- m[k]. -/
theorem lookup_run {w : World} {b : Nat} {es : List R11} (h : MapIs w b es) (k : K9) : (Instr.lookup 67 (.map (some b)) (kv9 k) false).run Try.prog w = .ok (cv ((findR k es).getD Cl.zero)) w := by
  rw [← idx_find k es]
  have hf := find_run k es w
  simp only [Instr.lookup, Sem.run_bind, run_underlying Try.underlying67, Result.andThen_ok, MapKept.run_getObj_map h, Sem.run_pure, check_run, hf]
  cases hx : es.findIdx? fun r => decide (r.k = k) with
  | none =>
    simp only [Sem.run_bind, zero_cell11, Result.andThen_ok, Sem.run_pure]
    rfl
  | some j =>
    obtain ⟨r, hr, _⟩ := idx_at hx
    simp only [hr, Option.map_some]
    rfl
theorem stays_run (k : K9) (w : World) : (Instr.keyThatStays (kv9 k) (kv9 k)).run Try.prog w = .ok (kv9 k) w := by
  have h : Instr.sameBits 10000 (kv9 k) (kv9 k) = true := by
    rw [show (10000 : Nat) = 9998 + 2 from rfl]
    have hb : ∀ l : List UInt8, ((⟨l.toArray⟩ : ByteArray) == ⟨l.toArray⟩) = true := fun l => by
      show (l.toArray == l.toArray) = true
      exact beq_self_eq_true _
    simp [Instr.sameBits]
    exact ⟨hb _, hb _, hb _, hb _⟩
  unfold Instr.keyThatStays
  rw [if_pos h]
  rfl
theorem ents_at (es : List R11) (i : Nat) : (entsR es)[i]? = (es[i]?).map fun r => entR (r, i) := by
  unfold entsR
  simp [List.getElem?_zipIdx]
  rfl
theorem ents_set {es : List R11} {j : Nat} {r : R11} (h : es[j]? = some r) (x : R11) : (entsR es).modify j (fun e => { e with key := kv9 x.k, val := cv x.c }) = entsR (es.set j x) := by
  apply Array.ext_getElem?
  intro i
  rw [Array.getElem?_modify, ents_at, ents_at, List.getElem?_set]
  obtain ⟨hj, _⟩ := List.getElem?_eq_some_iff.1 h
  by_cases e : j = i
  · subst e
    rw [if_pos rfl, if_pos rfl, if_pos hj, h]
    rfl
  · rw [if_neg e, if_neg e]
theorem ents_push (es : List R11) (x : R11) : (entsR es).push { key := kv9 x.k, val := cv x.c, born := es.length } = entsR (es ++ [x]) := by
  unfold entsR
  rw [List.zipIdx_append, List.map_append, List.push_toArray]
  simp [entR]
/-- m[k] = c. -/
theorem store_run {w : World} {b : Nat} {es : List R11} (h : MapIs w b es) (k : K9) (c : Cl) :
    (Instr.mapUpdate 67 (.map (some b)) (kv9 k) (cv c)).run Try.prog w = .ok () (setBlock w b (.map (entsR (setR k c es)) (setR k c es).length)) := by
  have hf := find_run k es w
  simp only [Instr.mapUpdate, Sem.run_bind, run_underlying Try.underlying67, Result.andThen_ok, MapKept.run_getObj_map h, check_run, hf]
  cases hx : es.findIdx? fun r => decide (r.k = k) with
  | none =>
    rw [set_new (idx_none hx)]
    simp only [MapKept.run_setObj_map _ h]
    rw [ents_push es ⟨k, c⟩, List.length_append]
    rfl
  | some j =>
    obtain ⟨r, hr, hk⟩ := idx_at hx
    rw [set_at hx]
    have e1 : (((entsR es)[j]?).map (·.key)).getD (kv9 k) = kv9 k := by rw [ents_at, hr, ← hk]; rfl
    simp only [hr, Option.map_some, Sem.run_bind, e1, stays_run, Result.andThen_ok, MapKept.run_setObj_map _ h]
    rw [ents_set hr ⟨k, c⟩, List.length_set]
    rfl
theorem stored {w : World} {b : Nat} {es : List R11} (h : MapIs w b es) (fs : List R11) : MapIs (setBlock w b (.map (entsR fs) fs.length)) b fs ∧ Turn (fun k => k = b) w (setBlock w b (.map (entsR fs) fs.length)) :=
  by
  have hlt := h.lt
  have hat : (w.heap.setIfInBounds b (.map (entsR fs) fs.length))[b]? = some (.map (entsR fs) fs.length) := by rw [Array.getElem?_setIfInBounds, if_pos rfl, if_pos hlt]
  exact ⟨hat, rfl, rfl, rfl, by simp [setBlock], fun i _ hi => by show (w.heap.setIfInBounds b _)[i]? = _; rw [Array.getElem?_setIfInBounds, if_neg (Ne.symm hi)]⟩
theorem len_run {w : World} {b : Nat} {es : List R11} (h : MapIs w b es) (ty : TypeId) : (Builtin.len_ #[67] ty #[.map (some b)]).run Try.prog w = .ok (.int .i64 (es.length : Int)) w := by
  simp [Builtin.len_, run_underlying Try.underlying67, MapKept.run_getObj_map h, goInt, Result.andThen, entsR]

/-- An iterator over it: what it has handed out. -/
def IterIs (w : World) (r b : Nat) (es : List R11) (seen : Array Nat) : Prop := w.heap[r]? = some (.mapIter (some b) es.length seen es.length)
theorem IterIs.lt {w : World} {r b : Nat} {es : List R11} {seen : Array Nat} (h : IterIs w r b es seen) : r < w.heap.size := (Array.getElem?_eq_some_iff.1 h).1
theorem IterIs.turn {S : Nat → Prop} {w w' : World} {r b : Nat} {es : List R11} {seen : Array Nat} (h : IterIs w r b es seen) (ht : Turn S w w') (hs : ¬ S r) : IterIs w' r b es seen := (ht.block r h.lt hs).trans h
/-- What is still to come. -/
def leftR (es : List R11) (seen : Array Nat) : List (R11 × Nat) := es.zipIdx.filter fun p => !seen.contains p.2
theorem range_run {w : World} {b : Nat} {es : List R11} (h : MapIs w b es) : (Instr.range 67 (.map (some b))).run Try.prog w = .ok (.pointer (some ⟨w.heap.size, 0, none⟩)) (w.alloc (.mapIter (some b) es.length #[] es.length)) :=
  run_range_map w _ _ _ b _ _ Try.underlying67 h
theorem leftOf_is (es : List R11) (seen : Array Nat) : (leftOf (entsR es) seen).toList = (leftR es seen).map entR := by
  unfold leftOf entsR leftR
  rw [Array.toList_filter]
  simp only [List.filter_map]
  rfl
theorem ents_mem {es : List R11} {x : MapEntry} (h : x ∈ (entsR es).toList) : ∃ p ∈ es.zipIdx, x = entR p := by
  unfold entsR at h
  obtain ⟨p, hp, e⟩ := List.mem_map.1 h
  exact ⟨p, hp, e.symm⟩
theorem next_run {w : World} {r b : Nat} {es : List R11} {seen : Array Nat} (h : MapIs w b es) (hr : IterIs w r b es seen) (ty : TypeId) :
    (leftR es seen = [] ∧ (Instr.next (.pointer (some ⟨r, 0, none⟩)) false ty).run Try.prog w = .ok (.tuple #[.bool false]) w) ∨
    ∃ p ∈ leftR es seen, ∃ w1 : World, (w1 = w ∨ w1 = w.drew) ∧ (Instr.next (.pointer (some ⟨r, 0, none⟩)) false ty).run Try.prog w = .ok (.tuple #[.bool true, kv9 p.1.k, cv p.1.c]) (setBlock w1 r (.mapIter (some b) es.length (seen.push p.2) es.length)) := by
  rcases run_next_at (P := Try.prog) w ty r b es.length es.length seen (entsR es) es.length hr h (fun x hx => by
    obtain ⟨p, hp, rfl⟩ := ents_mem hx
    have := List.mem_zipIdx hp
    show p.2 < _
    omega) (Nat.le_refl _) with ⟨h0, h1⟩ | ⟨e, he, w1, h1, h2⟩
  · refine .inl ⟨?_, h1⟩
    have e1 := leftOf_is es seen
    have e2 : (leftOf (entsR es) seen).toList = [] := List.eq_nil_of_length_eq_zero (by simpa using h0)
    rw [e2] at e1
    exact (List.map_eq_nil_iff.1 e1.symm)
  · right
    rw [leftOf_is] at he
    obtain ⟨p, hp, rfl⟩ := List.mem_map.1 he
    exact ⟨p, hp, w1, h1, h2⟩
theorem iterated {w w1 : World} {r b : Nat} {es : List R11} {seen : Array Nat} (hr : IterIs w r b es seen) (h1 : w1 = w ∨ w1 = w.drew) (seen' : Array Nat) :
    IterIs (setBlock w1 r (.mapIter (some b) es.length seen' es.length)) r b es seen' ∧ Turn (fun k => k = r) w (setBlock w1 r (.mapIter (some b) es.length seen' es.length)) := by
  have hlt := hr.lt
  have hsame : ∀ i : Nat, i ≠ r → (w.heap.setIfInBounds r (.mapIter (some b) es.length seen' es.length))[i]? = w.heap[i]? := fun i hi => by
    rw [Array.getElem?_setIfInBounds, if_neg (Ne.symm hi)]
  have hat : (w.heap.setIfInBounds r (.mapIter (some b) es.length seen' es.length))[r]? = some (.mapIter (some b) es.length seen' es.length) := by
    rw [Array.getElem?_setIfInBounds, if_pos rfl, if_pos hlt]
  rcases h1 with rfl | rfl
  · exact ⟨hat, rfl, rfl, rfl, by simp [setBlock], fun i _ hi => hsame i hi⟩
  · exact ⟨hat, rfl, rfl, rfl, by show w.heap.size ≤ (w.heap.setIfInBounds r _).size; simp, fun i _ hi => hsame i hi⟩
theorem born_once (es : List R11) : ((entsR es).toList.map (·.born)).Nodup := by
  have e : (entsR es).toList.map (·.born) = List.range es.length := by
    unfold entsR
    rw [List.map_map]
    show es.zipIdx.map (fun p => p.2) = _
    rw [List.zipIdx_map_snd]
    exact List.range_eq_range'.symm
  rw [e]
  exact List.nodup_range
theorem entry_run {w : World} {r b : Nat} {es : List R11} {seen : Array Nat} {p : R11 × Nat} (h : MapIs w b es) (hp : p ∈ es.zipIdx) (hr : IterIs w r b es (seen.push p.2)) :
    (Instr.entry (.pointer (some ⟨r, 0, none⟩))).run Try.prog w = .ok (.tuple #[kv9 p.1.k, cv p.1.c]) w :=
  run_entry_at (P := Try.prog) w r b es.length seen (entsR es) es.length (entR p) hr h (by unfold entsR; exact List.mem_map.2 ⟨p, hp, rfl⟩) (born_once es)
/-- One handed out: the others are still to come. -/
theorem left_step {es : List R11} {seen : Array Nat} {p : R11 × Nat} (hp : p ∈ leftR es seen) : (leftR es seen).Perm (p :: leftR es (seen.push p.2)) := by
  have hnd : (leftR es seen).Nodup := by
    have h2 : (es.zipIdx.map Prod.snd).Nodup := by rw [List.zipIdx_map_snd, ← List.range_eq_range']; exact List.nodup_range
    have h3 : es.zipIdx.Nodup := (List.pairwise_map.1 h2).imp fun h e => h (by rw [e])
    exact h3.sublist List.filter_sublist
  have e : leftR es (seen.push p.2) = (leftR es seen).filter fun q => q.2 != p.2 := by
    unfold leftR
    rw [List.filter_filter]
    refine List.filter_congr fun q _ => ?_
    rw [Array.contains_push, Bool.not_or, Bool.and_comm]
    congr 1
  have e2 : ((leftR es seen).filter fun q => q.2 != p.2) = (leftR es seen).filter fun q => q != p := by
    refine List.filter_congr fun q hq => ?_
    have m1 := (List.mem_filter.1 hq).1
    have m2 := (List.mem_filter.1 hp).1
    obtain ⟨i1, e1⟩ := q
    obtain ⟨i2, e2⟩ := p
    rw [List.mk_mem_zipIdx_iff_getElem?] at m1 m2
    by_cases h : e1 = e2
    · subst h
      rw [m1] at m2
      cases m2
      simp
    · have h1 : (e1 != e2) = true := by simp [h]
      have h2 : ((i1, e1) != (i2, e2)) = true := by simp [h]
      rw [h1, h2]
  rw [e, e2, ← List.Nodup.erase_eq_filter hnd]
  exact List.perm_cons_erase hp
theorem left_all (es : List R11) : leftR es #[] = es.zipIdx := by
  unfold leftR
  exact List.filter_eq_self.2 fun p _ => by simp

end Go.Proofs.Ytnnlgeldjjknmaa
