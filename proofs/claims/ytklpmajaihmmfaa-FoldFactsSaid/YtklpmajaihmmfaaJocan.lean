/-
  Texts laid one behind the other: Tf Tg Tt Tr To Ev Tq Tw.
-/
import Derived.Test.YtklpmajaihmmfaaJocaj
import Derived.Test.YtklpmajaihmmfaaJocak
import Derived.Test.YtklpmajaihmmfaaJocam
import Derived.Laws.ResultCell
import Derived.Test.YtklpmajaihmmfaaJocai
import Derived.Lib.SliceRun
import Derived.Test.YtklpmajaihmmfaaJocal
import Derived.Test.YtklpmajaihmmfaaJocae
import Derived.BigQuiet
import Derived.Maps.RangeWalk

/-
  Stage 11: Part: the rows of hours, gathered by a range over a function.
-/
namespace Go.Proofs.Ytklpmajaihmmfaa
open Go.RowKit Go.Shelf
attribute [local go_sem] Oper.semAt_some wide_fn

/-- A segment that is being made: its box, its rows, new since w2; the box that leads to it. -/
structure PartI (w2 : World) (g : Nat) (pre : List R11) (V : World) : Prop where
  out : ∃ v, Box V g 59 #[v] ∧ OwE ER 55 V v pre ∧ ∀ k, v.ownBlock = some k → w2.heap.size ≤ k
  ptr : Box V (g + 1) 30 #[.pointer (some ⟨g, 0, none⟩)]
  turn : Turn (fun k => k = g) w2 V
theorem holds_part (D : Nat) (w2 : World) (g : Nat) (hD : w2.heap.size ≤ D) : Holds D (fun pre V => PartI w2 g pre V) := fun s A B hs ht => by
  obtain ⟨⟨v, h1, h2, h3⟩, h4, h5⟩ := hs
  exact ⟨⟨v, h1.odd ht, holds_own (E := ER) (e := 55) D (fun _ : Unit => v) (fun _ => s) () A B h2 ht, h3⟩, h4.odd ht, h5.trans ht (fun k hk e => by have := e.1; omega)⟩

/-- .. in a round, behind the row that has come. -/
structure PartB (w2 : World) (g : Nat) (pre : List R11) (y : R11) (q : Nat) (V : World) : Prop where
  out : ∃ v, Box V g 59 #[v] ∧ OwE ER 55 V v pre ∧ (∀ k, v.ownBlock = some k → w2.heap.size ≤ k) ∧ v.ownBlock ≠ some q
  ptr : Box V (g + 1) 30 #[.pointer (some ⟨g, 0, none⟩)]
  row : Box V q 55 (cells11 y)
  turn : Turn (fun k => k = g) w2 V
  pre : pre.length + 1 ≤ 20000
theorem PartB.odd {w2 A B : World} {g q D : Nat} {pre : List R11} {y : R11} (h : PartB w2 g pre y q A) (hD : w2.heap.size ≤ D) (ht : Turn (odd D A) A B) : PartB w2 g pre y q B := by
  obtain ⟨⟨v, h1, h2, h3, h4⟩, h5, h6, h7, h8⟩ := h
  exact ⟨⟨v, h1.odd ht, holds_own (E := ER) (e := 55) D (fun _ : Unit => v) (fun _ => pre) () A B h2 ht, h3, h4⟩, h5.odd ht, h6.odd ht, h7.trans ht (fun k hk e => by have := e.1; omega), h8⟩
theorem PartI.round {w2 V : World} {g : Nat} {pre G : List R11} {y : R11} (h : PartI w2 g pre V) (hp : pre ++ [y] <+: G) (hG : G.length ≤ 20000) : PartB w2 g pre y V.heap.size (V.alloc (.cells (cells11 y) 55)) := by
  obtain ⟨⟨v, h1, h2, h3⟩, h4, h5⟩ := h
  have ht : Turn (fun _ => False) V (V.alloc (.cells (cells11 y) 55)) := (Turn.refl _ V).alloc _
  refine ⟨⟨v, h1.alloc _, h2.later ht, h3, fun e => by have := h2.lt e; omega⟩, h4.alloc _, Box.new V _ _, h5.alloc _, ?_⟩
  obtain ⟨r, hr⟩ := hp
  have := congrArg List.length hr
  simp only [List.length_append, List.length_cons, List.length_nil] at this
  omega

end Go.Proofs.Ytklpmajaihmmfaa

/-
  Stage 11: the program's Total, and Same by slices.Equal.
-/
namespace Go.Proofs.Ytklpmajaihmmfaa
open Go.RowKit

set_option maxRecDepth 100000

theorem run_neq_row11 (f g : R11) (W : World) (b : Bool) (h : decide (f = g) = b) : (binOp .neq 55 (rv11 f) (rv11 g)).run Try.prog W = .ok (.bool (!b)) W := by rw [run_neq_row, h]

end Go.Proofs.Ytklpmajaihmmfaa

/-
  Stage 11: the program's Total.
-/
namespace Go.Proofs.Ytklpmajaihmmfaa
open Go.RowKit

set_option maxRecDepth 100000

end Go.Proofs.Ytklpmajaihmmfaa

/-
  Stage 11: the program's Rows; a row of rows copied.
-/
namespace Go.Proofs.Ytklpmajaihmmfaa
open Go.RowKit Go.ChangeShapes Go.WideShapes Go.Deep

set_option maxRecDepth 100000

/-- Behind a row that was copied. -/
def Copied11 (w : World) (l : List R11) (e : Ending) (w' : World) : Prop := ∃ v, e = .returned v ∧ NewE ER 55 w w' v l

set_option maxHeartbeats 2000000 in
theorem clone11 (sv : Value) (l : List R11) (w : World) (h : RdE ER w sv l) (hl : l.length ≤ 1000000) :
    Calls Try.prog 23 #[sv] w fun e w' => Copied11 w l e w' := by
  have HH := Lib.hid h
  obtain ⟨A, c, rfl⟩ := h.shape
  have hf := h.fits
  clear h
  cases A with
  | none =>
    obtain ⟨rfl, rfl⟩ := hf.2.2.2 rfl
    clear hf
    simp only [List.length_nil] at HH ⊢
    go_enter Try.func23, Try.ntmps23
    have hrun : ∀ W, Sem.run Try.prog (binOp .eql 26 (.slice none 0 0) (.slice none 0 0)) W = .ok (.bool true) W := fun W => Lib.run_eql_slice_nil W _ _ none 0 0 0 0 Try.underlying26
    go_wp2
    go_ret
    exact ⟨_, rfl, OwE.nil _, (fun k e => by simp [Value.ownBlock] at e), Turn.refl _ w⟩
  | some ad =>
    clear hf
    have HN0 := Lib.hid (NewE.empty (E := ER) (e := 55) w w (Turn.refl _ w))
    have HS := Lib.hid (HH.out.later HN0.out.turn)
    go_enter Try.func23, Try.ntmps23
    have hrun : ∀ W, Sem.run Try.prog (binOp .eql 26 (.slice (some ad) l.length c) (.slice none 0 0)) W = .ok (.bool false) W := fun W => Lib.run_eql_slice_nil W _ _ (some ad) l.length c 0 0 Try.underlying26
    go_wp2_with (at_builtin; refine wpList_rows11 _ rfl _ _ rfl _ [] rfl HN0.out.own _ rfl l HS.out (by simp only [List.length_nil]; omega) ?_; intro A3 n3 c3 w3 ho ht hn; have HN3 := Lib.hid (HN0.out.step ho ht hn); clear ho ht hn)
    go_ret
    exact ⟨_, rfl, HN3.out⟩

theorem okRow_eq (r : R11) : okRow r = (!(r.c.n == 0) && rightC r.c) := by
  unfold okRow
  by_cases h : r.c.n = 0
  · have : (r.c.n == 0) = true := beq_iff_eq.2 h
    rw [this, decide_eq_false (by omega)]
    rfl
  · have e : (r.c.n == 0) = false := beq_eq_false_iff_ne.2 h
    rw [e, Bool.not_false, Bool.true_and]
    cases hr : rightC r.c with
    | false => rw [Bool.and_false]
    | true =>
      have : 1 ≤ r.c.n := by
        unfold rightC at hr
        rw [if_neg h] at hr
        simp only [Bool.and_eq_true, decide_eq_true_iff] at hr
        omega
      rw [decide_eq_true this]
      rfl

set_option maxHeartbeats 8000000 in
theorem rows_any11 (v : Value) (l : List R11) (w : World) (hv : RdE ER w v l) (hok : ∀ r ∈ l, okC r.c) (hl : l.length ≤ 20000) : Calls Try.prog 9 #[v] w fun e w' => RowsA11 w l e w' := by
  have HV := Lib.hid hv
  have HOK := Lib.hid hok
  obtain ⟨A, c, rfl⟩ := hv.shape
  clear hv hok
  go_enter Try.func9, Try.ntmps9
  go_wp2_with fail
  go_loopw [8] (fun x8 wr => ∃ i : Nat, x8 = .int .i64 (i : Int) ∧ i ≤ l.length ∧ (∀ k, k < i → rightAt l k = true) ∧ Turn (fun _ => False) w wr) (fun x8 _ => l.length - (intOf x8).toNat)
  case atStart => exact ⟨0, rfl, Nat.zero_le _, fun k hk => absurd hk (Nat.not_lt_zero k), Turn.refl _ w⟩
  case round =>
    obtain ⟨i, rfl, hi, hok, ht⟩ := hrel
    have HOI := Lib.hid hok
    have HT := Lib.hid ht
    clear hok ht
    by_cases hlt : i < l.length
    · obtain ⟨r, hr⟩ : ∃ r, l[i]? = some r := ⟨_, List.getElem?_eq_getElem hlt⟩
      obtain ⟨ad, rfl, hc⟩ := row_at11 HV.out hr
      obtain ⟨a0, a1, a2, a3, a4, a5, a6, a7, a8⟩ := hc wr HT.out
      have HNX : Hid (rightAt l i = true → ∀ k, k < i + 1 → rightAt l k = true) := fun h k hk => by
        by_cases e : k = i
        · rw [e]; exact h
        · exact HOI.out k (by omega)
      have HNO : Hid (rightAt l i = false → rightR l = false) := fun h => rightR_not h
      have hil : (i : Int) < l.length := by omega
      have HRO := Lib.hid (okRow_eq r)
      have HLO : Hid (okRow r = false → rightAt l i = false) := fun h => by
        unfold rightAt
        rw [hr]
        dsimp only
        rw [h, Bool.and_false]
      obtain ⟨w3, hw3⟩ : ∃ w3, w3 = wr.alloc (.cells (cells11 r) 55) := ⟨_, rfl⟩
      obtain ⟨g, hg⟩ : ∃ g, g = wr.heap.size := ⟨_, rfl⟩
      have HT3 : Hid (Turn (fun _ => False) w w3) := by rw [hw3]; exact HT.out.alloc _
      have HB3 : Hid (Box w3 g 55 (cells11 r)) := by rw [hw3, hg]; exact Box.new wr _ _
      have HCR : Hid (∀ W, Calls Try.prog 21 #[.agg #[.int .i64 r.c.n, .int .i64 r.c.s, .int .i64 r.c.lo, .int .i64 r.c.hi]] W fun e w' => e = .returned (.bool (rightC r.c)) ∧ Turn (fun _ => False) W w') := fun W => right_any r.c.n r.c.s r.c.lo r.c.hi W
      have HW3 := Lib.hid hw3; have HGG := Lib.hid hg
      clear hw3 hg
      by_cases hz : r.c.n = 0
      · have hzb : (r.c.n == 0) = true := beq_iff_eq.2 hz
        have HF : Hid (rightR l = false) := HNO.out (HLO.out (by rw [HRO.out, hzb]; rfl))
        have HE := Lib.hid (HT.out.alloc (.cells (cells11 r) 55))
        clear hc hr hz
        go_wp2
        go_ret2
        refine ⟨.pointer none, by rw [HF.out]; rfl, by rw [HF.out]; exact SV11.nil _, fun _ => rfl, HE.out⟩
      · have hzb : (r.c.n == 0) = false := beq_eq_false_iff_ne.2 hz
        clear hz
        cases hrc : rightC r.c with
        | false =>
          have HF : Hid (rightR l = false) := HNO.out (HLO.out (by rw [HRO.out, hrc, Bool.and_false]))
          rw [hrc] at HCR
          clear hc hr hrc
          go_wp2_with fail
          refine (HCR.out _).mono ?_
          rintro e w4 ⟨rfl, t4⟩
          have HE := Lib.hid ((HT.out.alloc (.cells (cells11 r) 55)).trans t4 (fun _ _ f => f))
          clear t4
          go_wp2
          go_ret2
          refine ⟨.pointer none, by rw [HF.out]; rfl, by rw [HF.out]; exact SV11.nil _, fun _ => rfl, HE.out⟩
        | true =>
          have HOR : Hid (okRow r = true) := by show _ = _; rw [HRO.out, hzb, hrc]; rfl
          rw [hrc] at HCR
          clear hrc
          go_wp2_with fail
          refine (HCR.out _).mono ?_
          rintro e w4 ⟨rfl, t4⟩
          have HT4 : Hid (Turn (fun _ => False) w3 w4) := by rw [HW3.out]; exact t4
          have HTW : Hid (Turn (fun _ => False) w w4) := HT3.out.trans HT4.out (fun _ _ f => f)
          have HBR : Hid (∀ W, Turn (fun _ => False) w4 W → Box W g 55 (cells11 r)) := fun W ht => (HB3.out.turn HT4.out (fun f => f)).turn ht (fun f => f)
          have HRV : Hid (RdE ER w4 (.slice (some ad) l.length c) l) := HV.out.later HTW.out
          clear t4 a0 a1 a2 a3 a4 a5 a6 a7 a8 hc HT3 HB3
          by_cases hpos : 0 < i
          · obtain ⟨q, hq⟩ : ∃ q, i = q + 1 := ⟨i - 1, by omega⟩
            obtain ⟨p, hp⟩ : ∃ p, l[q]? = some p := ⟨_, List.getElem?_eq_getElem (by omega)⟩
            obtain ⟨_, g2, hcp⟩ := row_at11 HRV.out hp
            cases g2
            have HPW : Hid (∀ W, Turn (fun _ => False) w4 W → RowAt W (ad.add (q * 9)) p) := fun W ht => hcp W ht
            unfold RowAt at HPW
            have hat : rightAt l i = (keyLt p.k r.k && okRow r) := by subst hq; exact rightAt_succ hr hp
            rw [HOR.out, Bool.and_true] at hat
            have hsub : IntKind.i64.wrap ((i : Int) - 1) = (q : Int) := by rw [hq, IntKind.wrap_i64]; omega
            have hql : (q : Int) < l.length := by omega
            have hpi : (0 : Int) < (i : Int) := by omega
            have HCM : Hid (∀ W, Calls Try.prog 22 #[.agg #[.int .i64 p.k.h, sv9 p.k.a, sv9 p.k.b, sv9 p.k.c, sv9 p.k.d], .agg #[.int .i64 r.k.h, sv9 r.k.a, sv9 r.k.b, sv9 r.k.c, sv9 r.k.d]] W fun e w' => e = .returned (.int .i64 (cmpK p.k r.k)) ∧ Turn (fun _ => False) W w') := fun W => compare_any9 p.k r.k W
            have hcg := cmpK_ge (p := p.k) (q := r.k)
            generalize cmpK p.k r.k = cm at *
            have HAT := Lib.hid hat
            clear hr hp hcp hat hq
            rcases hcg with ⟨hk, hneg⟩ | ⟨hk, hneg⟩
            · have HA : Hid (rightAt l i = true) := by show _ = _; rw [HAT.out, hk]
              have hn0 : ¬ (0 ≤ cm) := by omega
              clear hk
              go_wp2_with fail
              rw [← HGG.out]
              refine drawn_region (fun W => Turn (fun _ => False) w4 W) [] (by kernel_rfl) ?_
              have hS0 : Turn (fun _ => False) w4 (World.drew w4) := (Turn.refl _ w4).drew
              generalize World.drew w4 = wd at *
              refine drawn_take 0 23 (.int .i64 (i : Int)) rfl rfl (by kernel_rfl) (by kernel_rfl) (by kernel_rfl) (by kernel_rfl) (fun _ _ _ h => h) (by rfl) (by assumption) (by intro w hSw; obtain hS1 := hSw; go_simp) ?_
              try simp only [List.setIfInBounds_toArray, List.set_cons_zero, List.set_cons_succ]
              refine drawn_take 1 24 (.bool true) rfl rfl (by kernel_rfl) (by kernel_rfl) (by kernel_rfl) (by kernel_rfl) (fun _ _ _ h => h) (by rfl) (by assumption) (by intro w hSw; obtain hS1 := hSw; go_simp) ?_
              try simp only [List.setIfInBounds_toArray, List.set_cons_zero, List.set_cons_succ]
              refine drawn_take 2 25 (.bool true) rfl rfl (by kernel_rfl) (by kernel_rfl) (by kernel_rfl) (by kernel_rfl) (fun _ _ _ h => h) (by rfl) (by assumption) (by intro w hSw; obtain hS1 := hSw; go_simp) ?_
              try simp only [List.setIfInBounds_toArray, List.set_cons_zero, List.set_cons_succ]
              refine drawn_take 3 26 (.slice (some ad) l.length c) rfl rfl (by kernel_rfl) (by kernel_rfl) (by kernel_rfl) (by kernel_rfl) (fun _ _ _ h => h) (by rfl) (by assumption) (by intro w hSw; obtain hS1 := hSw; go_simp) ?_
              try simp only [List.setIfInBounds_toArray, List.set_cons_zero, List.set_cons_succ]
              refine drawn_take 4 27 (.int .i64 (i : Int)) rfl rfl (by kernel_rfl) (by kernel_rfl) (by kernel_rfl) (by kernel_rfl) (fun _ _ _ h => h) (by rfl) (by assumption) (by intro w hSw; obtain hS1 := hSw; go_simp) ?_
              try simp only [List.setIfInBounds_toArray, List.set_cons_zero, List.set_cons_succ]
              refine drawn_take 5 28 (.int .i64 (q : Int)) rfl rfl (by kernel_rfl) (by kernel_rfl) (by kernel_rfl) (by kernel_rfl) (fun _ _ _ h => h) (by rfl) (by assumption) (by intro w hSw; obtain hS1 := hSw; go_simp) ?_
              try simp only [List.setIfInBounds_toArray, List.set_cons_zero, List.set_cons_succ]
              refine drawn_take 6 29 (.pointer (some (ad.add (q * 9)))) rfl rfl (by kernel_rfl) (by kernel_rfl) (by kernel_rfl) (by kernel_rfl) (fun _ _ _ h => h) (by rfl) (by assumption) (by intro w hSw; obtain hS1 := hSw; go_simp) ?_
              try simp only [List.setIfInBounds_toArray, List.set_cons_zero, List.set_cons_succ]
              refine drawn_take 7 30 (.pointer (some (ad.add (q * 9)))) rfl rfl (by kernel_rfl) (by kernel_rfl) (by kernel_rfl) (by kernel_rfl) (fun _ _ _ h => h) (by rfl) (by assumption) (by intro w hSw; obtain hS1 := hSw; go_simp) ?_
              try simp only [List.setIfInBounds_toArray, List.set_cons_zero, List.set_cons_succ]
              refine drawn_take 8 31 (.agg #[.int .i64 p.k.h, sv9 p.k.a, sv9 p.k.b, sv9 p.k.c, sv9 p.k.d]) rfl rfl (by kernel_rfl) (by kernel_rfl) (by kernel_rfl) (by kernel_rfl) (fun _ _ _ h => h) (by rfl) (by assumption) (by intro w hSw; obtain ⟨a0, a1, a2, a3, a4, a5, a6, a7, a8⟩ := HPW.out w hSw; clear hSw; go_simp) ?_
              try simp only [List.setIfInBounds_toArray, List.set_cons_zero, List.set_cons_succ]
              refine drawn_take 9 32 (.pointer (some ⟨g, 0, none⟩)) rfl rfl (by kernel_rfl) (by kernel_rfl) (by kernel_rfl) (by kernel_rfl) (fun _ _ _ h => h) (by rfl) (by assumption) (by intro w hSw; obtain hS1 := hSw; go_simp) ?_
              try simp only [List.setIfInBounds_toArray, List.set_cons_zero, List.set_cons_succ]
              refine drawn_take 10 33 (.agg #[.int .i64 r.k.h, sv9 r.k.a, sv9 r.k.b, sv9 r.k.c, sv9 r.k.d]) rfl rfl (by kernel_rfl) (by kernel_rfl) (by kernel_rfl) (by kernel_rfl) (fun _ _ _ h => h) (by rfl) (by assumption) (by intro w hSw; have hb := HBR.out w hSw; have a0 := hb.cell 0; have a1 := hb.cell 1; have a2 := hb.cell 2; have a3 := hb.cell 3; have a4 := hb.cell 4; clear hSw hb; go_simp) ?_
              try simp only [List.setIfInBounds_toArray, List.set_cons_zero, List.set_cons_succ]
              refine drawn_any [11] (by kernel_rfl) (by simp) ?_
              refine drawn_cons rfl (fun K hK => ?_) drawn_nil
              go_simp
              refine (HCM.out _).mono ?_
              rintro e w5 ⟨rfl, t5⟩
              have hS4 := hS0.trans t5 (fun _ _ f => f)
              refine hK.out _ _ _ hS4 ?_
              clear hK K t5 hS0
              have hS0 := hS4
              clear hS4
              try simp only [List.setIfInBounds_toArray, List.set_cons_zero, List.set_cons_succ]
              refine drawn_take 12 35 (.bool false) rfl rfl (by kernel_rfl) (by kernel_rfl) (by kernel_rfl) (by kernel_rfl) (fun _ _ _ h => h) (by rfl) (by assumption) (by intro w hSw; obtain hS1 := hSw; go_simp) ?_
              try simp only [List.setIfInBounds_toArray, List.set_cons_zero, List.set_cons_succ]
              refine drawn_last1 13 36 (.bool false) rfl rfl (by kernel_rfl) (by kernel_rfl) (by rfl) (by intro w; go_simp) hS0 ?_
              try simp only [List.setIfInBounds_toArray, List.set_cons_zero, List.set_cons_succ]
              have HE := Lib.hid (HTW.out.trans hS0 (fun _ _ f => f))
              clear hS0
              go_wp2
              go_roundw
              case rel => exact ⟨i + 1, by go_num, hlt, HNX.out HA.out, HE.out⟩
              case measure => simp [intOf]; omega
            · have HF : Hid (rightR l = false) := HNO.out (by rw [HAT.out, hk])
              clear hk
              go_wp2_with fail
              rw [← HGG.out]
              refine drawn_region (fun W => Turn (fun _ => False) w4 W) [] (by kernel_rfl) ?_
              have hS0 : Turn (fun _ => False) w4 (World.drew w4) := (Turn.refl _ w4).drew
              generalize World.drew w4 = wd at *
              refine drawn_take 0 23 (.int .i64 (i : Int)) rfl rfl (by kernel_rfl) (by kernel_rfl) (by kernel_rfl) (by kernel_rfl) (fun _ _ _ h => h) (by rfl) (by assumption) (by intro w hSw; obtain hS1 := hSw; go_simp) ?_
              try simp only [List.setIfInBounds_toArray, List.set_cons_zero, List.set_cons_succ]
              refine drawn_take 1 24 (.bool true) rfl rfl (by kernel_rfl) (by kernel_rfl) (by kernel_rfl) (by kernel_rfl) (fun _ _ _ h => h) (by rfl) (by assumption) (by intro w hSw; obtain hS1 := hSw; go_simp) ?_
              try simp only [List.setIfInBounds_toArray, List.set_cons_zero, List.set_cons_succ]
              refine drawn_take 2 25 (.bool true) rfl rfl (by kernel_rfl) (by kernel_rfl) (by kernel_rfl) (by kernel_rfl) (fun _ _ _ h => h) (by rfl) (by assumption) (by intro w hSw; obtain hS1 := hSw; go_simp) ?_
              try simp only [List.setIfInBounds_toArray, List.set_cons_zero, List.set_cons_succ]
              refine drawn_take 3 26 (.slice (some ad) l.length c) rfl rfl (by kernel_rfl) (by kernel_rfl) (by kernel_rfl) (by kernel_rfl) (fun _ _ _ h => h) (by rfl) (by assumption) (by intro w hSw; obtain hS1 := hSw; go_simp) ?_
              try simp only [List.setIfInBounds_toArray, List.set_cons_zero, List.set_cons_succ]
              refine drawn_take 4 27 (.int .i64 (i : Int)) rfl rfl (by kernel_rfl) (by kernel_rfl) (by kernel_rfl) (by kernel_rfl) (fun _ _ _ h => h) (by rfl) (by assumption) (by intro w hSw; obtain hS1 := hSw; go_simp) ?_
              try simp only [List.setIfInBounds_toArray, List.set_cons_zero, List.set_cons_succ]
              refine drawn_take 5 28 (.int .i64 (q : Int)) rfl rfl (by kernel_rfl) (by kernel_rfl) (by kernel_rfl) (by kernel_rfl) (fun _ _ _ h => h) (by rfl) (by assumption) (by intro w hSw; obtain hS1 := hSw; go_simp) ?_
              try simp only [List.setIfInBounds_toArray, List.set_cons_zero, List.set_cons_succ]
              refine drawn_take 6 29 (.pointer (some (ad.add (q * 9)))) rfl rfl (by kernel_rfl) (by kernel_rfl) (by kernel_rfl) (by kernel_rfl) (fun _ _ _ h => h) (by rfl) (by assumption) (by intro w hSw; obtain hS1 := hSw; go_simp) ?_
              try simp only [List.setIfInBounds_toArray, List.set_cons_zero, List.set_cons_succ]
              refine drawn_take 7 30 (.pointer (some (ad.add (q * 9)))) rfl rfl (by kernel_rfl) (by kernel_rfl) (by kernel_rfl) (by kernel_rfl) (fun _ _ _ h => h) (by rfl) (by assumption) (by intro w hSw; obtain hS1 := hSw; go_simp) ?_
              try simp only [List.setIfInBounds_toArray, List.set_cons_zero, List.set_cons_succ]
              refine drawn_take 8 31 (.agg #[.int .i64 p.k.h, sv9 p.k.a, sv9 p.k.b, sv9 p.k.c, sv9 p.k.d]) rfl rfl (by kernel_rfl) (by kernel_rfl) (by kernel_rfl) (by kernel_rfl) (fun _ _ _ h => h) (by rfl) (by assumption) (by intro w hSw; obtain ⟨a0, a1, a2, a3, a4, a5, a6, a7, a8⟩ := HPW.out w hSw; clear hSw; go_simp) ?_
              try simp only [List.setIfInBounds_toArray, List.set_cons_zero, List.set_cons_succ]
              refine drawn_take 9 32 (.pointer (some ⟨g, 0, none⟩)) rfl rfl (by kernel_rfl) (by kernel_rfl) (by kernel_rfl) (by kernel_rfl) (fun _ _ _ h => h) (by rfl) (by assumption) (by intro w hSw; obtain hS1 := hSw; go_simp) ?_
              try simp only [List.setIfInBounds_toArray, List.set_cons_zero, List.set_cons_succ]
              refine drawn_take 10 33 (.agg #[.int .i64 r.k.h, sv9 r.k.a, sv9 r.k.b, sv9 r.k.c, sv9 r.k.d]) rfl rfl (by kernel_rfl) (by kernel_rfl) (by kernel_rfl) (by kernel_rfl) (fun _ _ _ h => h) (by rfl) (by assumption) (by intro w hSw; have hb := HBR.out w hSw; have a0 := hb.cell 0; have a1 := hb.cell 1; have a2 := hb.cell 2; have a3 := hb.cell 3; have a4 := hb.cell 4; clear hSw hb; go_simp) ?_
              try simp only [List.setIfInBounds_toArray, List.set_cons_zero, List.set_cons_succ]
              refine drawn_any [11] (by kernel_rfl) (by simp) ?_
              refine drawn_cons rfl (fun K hK => ?_) drawn_nil
              go_simp
              refine (HCM.out _).mono ?_
              rintro e w5 ⟨rfl, t5⟩
              have hS4 := hS0.trans t5 (fun _ _ f => f)
              refine hK.out _ _ _ hS4 ?_
              clear hK K t5 hS0
              have hS0 := hS4
              clear hS4
              try simp only [List.setIfInBounds_toArray, List.set_cons_zero, List.set_cons_succ]
              refine drawn_take 12 35 (.bool true) rfl rfl (by kernel_rfl) (by kernel_rfl) (by kernel_rfl) (by kernel_rfl) (fun _ _ _ h => h) (by rfl) (by assumption) (by intro w hSw; obtain hS1 := hSw; go_simp) ?_
              try simp only [List.setIfInBounds_toArray, List.set_cons_zero, List.set_cons_succ]
              refine drawn_last1 13 36 (.bool true) rfl rfl (by kernel_rfl) (by kernel_rfl) (by rfl) (by intro w; go_simp) hS0 ?_
              try simp only [List.setIfInBounds_toArray, List.set_cons_zero, List.set_cons_succ]
              have HE := Lib.hid (HTW.out.trans hS0 (fun _ _ f => f))
              clear hS0
              go_wp2
              go_ret2
              refine ⟨.pointer none, by rw [HF.out]; rfl, by rw [HF.out]; exact SV11.nil _, fun _ => rfl, HE.out⟩
          · have HA : Hid (rightAt l i = true) := by
              obtain rfl : i = 0 := by omega
              show _ = _
              rw [rightAt_zero hr, HOR.out]
            have hpi : ¬ (0 : Int) < (i : Int) := by omega
            clear hr
            go_wp2_with fail
            rw [← HGG.out]
            refine drawn_region (fun W => Turn (fun _ => False) w4 W) [] (by kernel_rfl) ?_
            have hS0 : Turn (fun _ => False) w4 (World.drew w4) := (Turn.refl _ w4).drew
            generalize World.drew w4 = wd at *
            refine drawn_take 0 23 (.int .i64 (i : Int)) rfl rfl (by kernel_rfl) (by kernel_rfl) (by kernel_rfl) (by kernel_rfl) (fun _ _ _ h => h) (by rfl) (by assumption) (by intro w hSw; obtain hS1 := hSw; go_simp) ?_
            try simp only [List.setIfInBounds_toArray, List.set_cons_zero, List.set_cons_succ]
            refine drawn_take 1 24 (.bool false) rfl rfl (by kernel_rfl) (by kernel_rfl) (by kernel_rfl) (by kernel_rfl) (fun _ _ _ h => h) (by rfl) (by assumption) (by intro w hSw; obtain hS1 := hSw; go_simp) ?_
            try simp only [List.setIfInBounds_toArray, List.set_cons_zero, List.set_cons_succ]
            refine drawn_take 2 25 (.bool false) rfl rfl (by kernel_rfl) (by kernel_rfl) (by kernel_rfl) (by kernel_rfl) (fun _ _ _ h => h) (by rfl) (by assumption) (by intro w hSw; obtain hS1 := hSw; go_simp) ?_
            try simp only [List.setIfInBounds_toArray, List.set_cons_zero, List.set_cons_succ]
            refine drawn_skip 3 26 rfl rfl (by kernel_rfl) (by kernel_rfl) (by kernel_rfl) (by kernel_rfl) (fun _ _ _ h => h) (by rfl) (fun _ => by assumption) ?_
            try simp only [List.setIfInBounds_toArray, List.set_cons_zero, List.set_cons_succ]
            refine drawn_skip 4 27 rfl rfl (by kernel_rfl) (by kernel_rfl) (by kernel_rfl) (by kernel_rfl) (fun _ _ _ h => h) (by rfl) (fun _ => by assumption) ?_
            try simp only [List.setIfInBounds_toArray, List.set_cons_zero, List.set_cons_succ]
            refine drawn_skip 5 28 rfl rfl (by kernel_rfl) (by kernel_rfl) (by kernel_rfl) (by kernel_rfl) (fun _ _ _ h => h) (by rfl) (fun _ => by assumption) ?_
            try simp only [List.setIfInBounds_toArray, List.set_cons_zero, List.set_cons_succ]
            refine drawn_skip 6 29 rfl rfl (by kernel_rfl) (by kernel_rfl) (by kernel_rfl) (by kernel_rfl) (fun _ _ _ h => h) (by rfl) (fun _ => by assumption) ?_
            try simp only [List.setIfInBounds_toArray, List.set_cons_zero, List.set_cons_succ]
            refine drawn_skip 7 30 rfl rfl (by kernel_rfl) (by kernel_rfl) (by kernel_rfl) (by kernel_rfl) (fun _ _ _ h => h) (by rfl) (fun _ => by assumption) ?_
            try simp only [List.setIfInBounds_toArray, List.set_cons_zero, List.set_cons_succ]
            refine drawn_skip 8 31 rfl rfl (by kernel_rfl) (by kernel_rfl) (by kernel_rfl) (by kernel_rfl) (fun _ _ _ h => h) (by rfl) (fun _ => by assumption) ?_
            try simp only [List.setIfInBounds_toArray, List.set_cons_zero, List.set_cons_succ]
            refine drawn_skip 9 32 rfl rfl (by kernel_rfl) (by kernel_rfl) (by kernel_rfl) (by kernel_rfl) (fun _ _ _ h => h) (by rfl) (fun _ => by assumption) ?_
            try simp only [List.setIfInBounds_toArray, List.set_cons_zero, List.set_cons_succ]
            refine drawn_skip 10 33 rfl rfl (by kernel_rfl) (by kernel_rfl) (by kernel_rfl) (by kernel_rfl) (fun _ _ _ h => h) (by rfl) (fun _ => by assumption) ?_
            try simp only [List.setIfInBounds_toArray, List.set_cons_zero, List.set_cons_succ]
            refine drawn_skip 11 34 rfl rfl (by kernel_rfl) (by kernel_rfl) (by kernel_rfl) (by kernel_rfl) (fun _ _ _ h => h) (by rfl) (fun _ => by assumption) ?_
            try simp only [List.setIfInBounds_toArray, List.set_cons_zero, List.set_cons_succ]
            refine drawn_skip 12 35 rfl rfl (by kernel_rfl) (by kernel_rfl) (by kernel_rfl) (by kernel_rfl) (fun _ _ _ h => h) (by rfl) (fun _ => by assumption) ?_
            try simp only [List.setIfInBounds_toArray, List.set_cons_zero, List.set_cons_succ]
            refine drawn_last1 13 36 (.bool false) rfl rfl (by kernel_rfl) (by kernel_rfl) (by rfl) (by intro w; go_simp) hS0 ?_
            try simp only [List.setIfInBounds_toArray, List.set_cons_zero, List.set_cons_succ]
            have HE := Lib.hid (HTW.out.trans hS0 (fun _ _ f => f))
            clear hS0
            go_wp2
            go_roundw
            case rel => exact ⟨i + 1, by go_num, hlt, HNX.out HA.out, HE.out⟩
            case measure => simp [intOf]; omega
    · obtain rfl : i = l.length := by omega
      have HY : Hid (rightR l = true) := rightR_yes HOI.out
      have HOK2 : Hid (rightR l = true ∧ (∀ r ∈ l, okC r.c) ∧ l.length ≤ 20000) := ⟨HY.out, HOK.out, hl⟩
      have HC := Lib.hid (clone11 _ l wr (HV.out.later HT.out) (by omega))
      go_wp2_with fail
      refine HC.out.mono ?_
      rintro e w4 ⟨sv, rfl, hn⟩
      have HN := Lib.hid hn
      obtain ⟨A2, c2, rfl⟩ := hn.own.shape
      clear hn HC
      go_wp2
      go_ret2
      exact ⟨_, by rw [HY.out]; rfl, by rw [HY.out]; exact SV11.new HN.out.own.rd HOK2.out, (fun e => by rw [HY.out] at e; cases e), (HT.out.trans HN.out.turn (fun _ _ f => f)).alloc _⟩

end Go.Proofs.Ytklpmajaihmmfaa

/-
  Stage 11: the program's together: all rows of segments, in one list whose keys never fall.
-/
namespace Go.Proofs.Ytklpmajaihmmfaa
open Go.RowKit

set_option maxRecDepth 100000

theorem SVs11.later {w w' : World} {v : Value} {ls : List (List R11)} (h : SVs11 w v ls) (ht : Turn (fun _ => False) w w') : SVs11 w' v ls := by
  obtain ⟨ps, h1, h2, h3⟩ := h.out
  exact ⟨ps, h1.later ht, h2, fun j p x e1 e2 => (h3 j p x e1 e2).later ht⟩
theorem SVs11.shape {w : World} {v : Value} {ls : List (List R11)} (h : SVs11 w v ls) : ∃ A c, v = .slice A ls.length c := by
  obtain ⟨ps, h1, h2, h3⟩ := h.out
  obtain ⟨A, c, e⟩ := h1.shape
  exact ⟨A, c, by rw [e, h2]⟩
theorem SVs11.front {w : World} {A : Option Addr} {n c : Nat} {ls : List (List R11)} (h : SVs11 w (.slice A n c) ls) (m : Nat) (hm : m ≤ n) : SVs11 w (.slice A m c) (ls.take m) := by
  obtain ⟨ps, h1, h2, h3⟩ := h.out
  refine ⟨ps.take m, h1.front m hm, by rw [List.length_take, List.length_take, h2], fun j p x e1 e2 => ?_⟩
  rw [List.getElem?_take] at e1 e2
  split at e1
  · rename_i hj
    rw [if_pos hj] at e2
    exact h3 j p x e1 e2
  · cases e1
theorem SVs11.back {w : World} {A : Option Addr} {n c : Nat} {ls : List (List R11)} (h : SVs11 w (.slice A n c) ls) (m : Nat) (hm : m ≤ n) : SVs11 w (tailV EP11 A n c m) (ls.drop m) := by
  obtain ⟨ps, h1, h2, h3⟩ := h.out
  refine ⟨ps.drop m, rd_tailV h1 hm, by rw [List.length_drop, List.length_drop, h2], fun j p x e1 e2 => ?_⟩
  rw [List.getElem?_drop] at e1 e2
  exact h3 _ p x e1 e2
theorem SVs11.mem {w : World} {v : Value} {ls : List (List R11)} (h : SVs11 w v ls) : ∀ r ∈ ls.flatten, okRow r = true ∧ okC r.c := fun r hr => by
  obtain ⟨l, hl, hr⟩ := List.mem_flatten.1 hr
  obtain ⟨j, hj⟩ := List.mem_iff_getElem?.1 hl
  obtain ⟨ps, h1, h2, h3⟩ := h.out
  obtain ⟨hj1, _⟩ := List.getElem?_eq_some_iff.1 hj
  have hs := h3 j _ l (List.getElem?_eq_getElem (by omega)) hj
  exact ⟨(rightR_spec hs.right.1).2 r hr, hs.right.2.1 r hr⟩
theorem seg_size11 : (Try.prog.info? 30).map (·.size) = some EP11.sz := by kernel_rfl

/-- All rows, together. -/
def Tog11 (w : World) (ls : List (List R11)) (e : Ending) (w' : World) : Prop := ∃ v rows, e = .returned v ∧ RdE ER w' v rows ∧ TogR ls rows ∧ Turn (fun _ => False) w w'

end Go.Proofs.Ytklpmajaihmmfaa

/-
  A part of one element stored into a row of one's own. No type is named here.
-/
namespace Go.Proofs.Ytklpmajaihmmfaa
open Go.RowKit

section
variable {T : Type} {E : El T} {e : TypeId} {w : World} {ad : Addr} {n c : Nat} {L : List T}
theorem OwE.part (h : OwE E e w (.slice (some ad) n c) L) {j o : Nat} {z x : T} {vs : List Value} (hz : L[j]? = some z) (ho : o + vs.length ≤ E.sz) (hx : E.enc x = (E.enc z).take o ++ vs ++ (E.enc z).drop (o + vs.length)) :
    OwE E e (w.setCells ad.block (ad.off + j * E.sz + o) vs) (.slice (some ad) n c) (L.set j x) := by
  obtain ⟨hj, hze⟩ := List.getElem?_eq_some_iff.1 hz
  obtain ⟨cur, ha, hn, hb, h1, h2, h3, h4⟩ := h.home
  have hoff : ad.off = 0 := by rw [ha]
  rw [hoff, Nat.zero_add, ha, hn]
  have hsz : L.length * E.sz ≤ cur.size := by rw [h3]; exact Nat.mul_le_mul_right _ h1
  have hj2 : j * E.sz + E.sz ≤ L.length * E.sz := by rw [← Nat.succ_mul]; exact Nat.mul_le_mul_right _ hj
  have hbox := Box.setCells vs (j * E.sz + o) cur w hb (by omega)
  have hl : (L.set j x).length = L.length := List.length_set
  have hF : (E.flat L).length = L.length * E.sz := E.flat_len L
  have hcur : cur.toList = E.flat L ++ cur.toList.drop (L.length * E.sz) := by rw [← h4, List.take_append_drop]
  have hsame : E.flat L = (E.flat L).take (j * E.sz) ++ (E.enc z ++ (E.flat L).drop (j * E.sz + E.sz)) := by
    have := E.flat_set hj z
    rw [← hze, List.set_getElem_self, List.append_assoc] at this
    rw [← hze]
    exact this
  have hT : ((E.flat L).take (j * E.sz)).length = j * E.sz := by rw [List.length_take]; omega
  have hZ : (E.enc z).length = E.sz := E.len z
  have e1 : cur.toList.take (j * E.sz + o) ++ vs ++ cur.toList.drop (j * E.sz + o + vs.length) = E.flat (L.set j x) ++ cur.toList.drop (L.length * E.sz) := by
    rw [E.flat_set hj, hx]
    have t1 : cur.toList.take (j * E.sz + o) = (E.flat L).take (j * E.sz) ++ (E.enc z).take o := by
      rw [hcur, List.take_append_of_le_length (by omega)]
      conv => lhs; rw [hsame]
      rw [List.take_append, hT, List.take_of_length_le (by omega), show j * E.sz + o - j * E.sz = o by omega, List.take_append_of_le_length (by omega)]
    have t2 : cur.toList.drop (j * E.sz + o + vs.length) = (E.enc z).drop (o + vs.length) ++ ((E.flat L).drop (j * E.sz + E.sz) ++ cur.toList.drop (L.length * E.sz)) := by
      conv => lhs; rw [hcur]
      rw [List.drop_append_of_le_length (by omega)]
      conv => lhs; lhs; rw [hsame]
      rw [List.drop_append, hT, List.drop_of_length_le (by omega), List.nil_append, show j * E.sz + o + vs.length - j * E.sz = o + vs.length by omega, List.drop_append_of_le_length (by omega), List.append_assoc]
    rw [t1, t2]
    simp only [List.append_assoc]
  rw [e1] at hbox
  have hr := OwE.of_box (E := E) (L := L.set j x) (c := c) hbox (by rw [hl]; exact h1) h2 (by
    have hd : (cur.toList.drop (L.length * E.sz)).length = cur.size - L.length * E.sz := by rw [List.length_drop, Array.length_toList]
    rw [List.size_toArray, List.length_append, E.flat_len, hl, hd]
    omega) (by rw [hl]; dsimp only; rw [← hl, ← E.flat_len, List.take_left])
  rw [hl] at hr
  exact hr
theorem OwE.therePart (h : OwE E e w (.slice (some ad) n c) L) {j o m : Nat} (hj : j < L.length) (ho : o + m ≤ E.sz) : w.there ad.block (ad.off + j * E.sz + o) m := by
  obtain ⟨cur, ha, hn, hb, h1, h2, h3, h4⟩ := h.home
  have hoff : ad.off = 0 := by rw [ha]
  intro i hi
  have hj2 : j * E.sz + E.sz ≤ L.length * E.sz := by rw [← Nat.succ_mul]; exact Nat.mul_le_mul_right _ hj
  have hsz : L.length * E.sz ≤ cur.size := by rw [h3]; exact Nat.mul_le_mul_right _ h1
  refine ⟨?_, hb.free _⟩
  rw [hb.cell, Array.getElem?_eq_getElem (by omega)]
  rfl
/-- A part of one element stored, in a region that draws nothing. -/
theorem wpList_part {P : Program} {ops : Array Oper} {rest : List Oper} {op : Oper} {a : Act} {Q : Exit → Act → World → Prop} (hgd : op.guard = none) (ty : TypeId) (x y : Operand) (ho : op.op = .store ty x y)
    (hown : OwE E e w (.slice (some ad) n c) L) (j o : Nat) (z t : T) (vs : Array Value) (hz : L[j]? = some z) (hb : o + vs.size ≤ E.sz) (ht : E.enc t = (E.enc z).take o ++ vs.toList ++ (E.enc z).drop (o + vs.size))
    (hx : a.eval x = .pointer (some ⟨(ad.add (j * E.sz)).block, (ad.add (j * E.sz)).off + o, none⟩)) (hy : a.eval y = .agg vs) (hi : (P.info? ty).map (·.size) = some vs.size) (h1 : vs.all (·.oneCell') = true)
    (h : ∀ w', OwE E e w' (.slice (some ad) n c) (L.set j t) → Turn (fun k => k = ad.block) w w' → wpList P ops Q rest (a.put op.dst undef) w') : wpList P ops Q (op :: rest) a w := by
  obtain ⟨cur, ha, -⟩ := hown.home
  have hadd : ad.add (j * E.sz) = ⟨ad.block, ad.off + j * E.sz, none⟩ := by
    obtain ⟨b, o, s⟩ := ad
    simp only [Addr.mk.injEq, true_and] at ha
    obtain ⟨rfl, rfl⟩ := ha
    rw [own_add, Nat.zero_add]
  rw [hadd] at hx
  have hj := (List.getElem?_eq_some_iff.1 hz).1
  refine wpList_store_mid hgd ty x y ho ad.block (ad.off + j * E.sz + o) vs hx hy (hown.therePart hj hb) hi h1 ?_
  have hl : vs.toList.length = vs.size := Array.length_toList
  exact h _ (hown.part hz (by rw [hl]; exact hb) (by rw [hl]; exact ht)) (turn_setCells (S := fun k => k = ad.block) rfl _ _ _)
end

end Go.Proofs.Ytklpmajaihmmfaa

/-
  Stage 11: the program's once: each key once, its cells merged; Merge.
-/
namespace Go.Proofs.Ytklpmajaihmmfaa
open Go.RowKit

set_option maxRecDepth 100000

/-- Behind once: what rows come to. -/
def Once11 (w : World) (rows : List R11) (e : Ending) (w' : World) : Prop := ∃ v, e = .returned (.tuple #[v, .bool (putsR [] rows).isSome]) ∧ RdE ER w' v ((putsR [] rows).getD []) ∧ Turn (fun _ => False) w w'
theorem last_at {M : List R11} {n : Nat} (h : M.length = n + 1) : ∃ t z, M = t ++ [z] ∧ t.length = n ∧ M[n]? = some z ∧ M.getLast? = some z := by
  rcases List.eq_nil_or_concat M with e | ⟨t, z, e⟩
  · subst e; simp at h
  · rw [List.concat_eq_append] at e
    subst e
    have ht : t.length = n := by simpa using h
    exact ⟨t, z, rfl, ht, by rw [← ht]; simp, by simp⟩
/-- A row's cell stored, in a region that draws nothing. -/
theorem wpList_cell11 {w : World} {ad : Addr} {n c : Nat} {L : List R11} {ops : Array Oper} {rest : List Oper} {op : Oper} {a : Act} {Q : Exit → Act → World → Prop} (hgd : op.guard = none) (x y : Operand) (ho : op.op = .store 53 x y)
    (hown : OwE ER 55 w (.slice (some ad) n c) L) (j : Nat) (z : R11) (n2 s2 lo2 hi2 : Int) (hz : L[j]? = some z) (hx : a.eval x = .pointer (some ⟨(ad.add (j * 9)).block, (ad.add (j * 9)).off + 5, none⟩)) (hy : a.eval y = .agg #[.int .i64 n2, .int .i64 s2, .int .i64 lo2, .int .i64 hi2])
    (h : ∀ w', OwE ER 55 w' (.slice (some ad) n c) (L.set j ⟨z.k, ⟨n2, s2, lo2, hi2⟩⟩) → Turn (fun k => k = ad.block) w w' → wpList Try.prog ops Q rest (a.put op.dst undef) w') : wpList Try.prog ops Q (op :: rest) a w :=
  wpList_part (E := ER) hgd _ x y ho hown j 5 z ⟨z.k, ⟨n2, s2, lo2, hi2⟩⟩ (ca ⟨n2, s2, lo2, hi2⟩) hz (by show 5 + 4 ≤ 9; decide) rfl hx hy (by kernel_rfl) (cell_one11 _) h

end Go.Proofs.Ytklpmajaihmmfaa

/-
  Stage 11: the program's Of: facts gathered in a map, which is ranged over, and sorted.
-/
namespace Go.Proofs.Ytklpmajaihmmfaa
open Go.RowKit

set_option maxRecDepth 100000

/-- A fact's cells, in a box. -/
abbrev cellsF (f : F9) : Array Value := #[.int .i64 f.k.h, sv9 f.k.a, sv9 f.k.b, sv9 f.k.c, sv9 f.k.d, .int .i64 f.v]

set_option maxHeartbeats 16000000 in
theorem of_any11 (v : Value) (l : List F9) (w : World) (hv : RdE EF w v l) (hf : ∀ f ∈ l, fit f.v = true) (hl : l.length ≤ 20000) : Calls Try.prog 17 #[v] w fun e w' => Seg11 w (ofR l) 6 e w' := by
  have HV := Lib.hid hv
  have HF := Lib.hid hf
  obtain ⟨A, c, rfl⟩ := hv.shape
  clear hv hf
  have hmk : ∀ W, (Instr.makeMap 72 none).run Try.prog W = .ok (.map (some W.heap.size)) (W.alloc (.map #[] 0)) := fun W => rfl
  obtain ⟨b, hb⟩ : ∃ b, b = w.heap.size := ⟨_, rfl⟩
  obtain ⟨w0, hw0⟩ : ∃ w0, w0 = w.alloc (.map #[] 0) := ⟨_, rfl⟩
  have HM0 : Hid (MapIs w0 b []) := by rw [hw0, hb]; exact MapIs.new w
  have HT0 : Hid (Turn (fun _ => False) w w0) := by rw [hw0]; exact (Turn.refl _ w).alloc _
  have HSI : Hid ((Try.prog.info? 53).map (·.size) = some 4) := by show _ = _; kernel_rfl
  have HBB := Lib.hid hb; have HW0 := Lib.hid hw0
  clear hb hw0
  go_enter Try.func17, Try.ntmps17
  go_wp2_with fail
  rw [← HW0.out, ← HBB.out]
  clear hmk
  go_loopw [15] (fun x15 wr => ∃ (i : Nat) (es : List R11), x15 = .int .i64 (i : Int) ∧ i ≤ l.length ∧ MapIs wr b es ∧ MapR l i es ∧ Turn (fun _ => False) w wr) (fun x15 _ => l.length - (intOf x15).toNat)
  case atStart => exact ⟨0, [], rfl, Nat.zero_le _, HM0.out, MapR.start l, HT0.out⟩
  case round =>
    clear HM0 HT0
    obtain ⟨i, es, rfl, hi, hm, hr, ht⟩ := hrel
    have HM := Lib.hid hm; have HR := Lib.hid hr; have HT := Lib.hid ht
    clear hm hr ht
    by_cases hlt : i < l.length
    · obtain ⟨f, hfi⟩ : ∃ f, l[i]? = some f := ⟨_, List.getElem?_eq_getElem hlt⟩
      obtain ⟨ad, rfl, hc⟩ := fact_at6 HV.out hfi
      obtain ⟨a0, a1, a2, a3, a4, a5⟩ := hc wr HT.out
      have hil : (i : Int) < l.length := by omega
      obtain ⟨g, hg⟩ : ∃ g, g = wr.heap.size := ⟨_, rfl⟩
      obtain ⟨w1, hw1⟩ : ∃ w1, w1 = wr.alloc (.cells (cellsF f) 46) := ⟨_, rfl⟩
      have HT1 : Hid (Turn (fun _ => False) wr w1) := by rw [hw1]; exact (Turn.refl _ wr).alloc _
      have HB1 : Hid (Box w1 g 46 (cellsF f)) := by rw [hw1, hg]; exact Box.new wr _ _
      have HM1 : Hid (∀ W, Turn (fun _ => False) w1 W → MapIs W b es) := fun W ht => HM.out.turn (HT1.out.trans ht (fun _ _ f => f)) (fun f => f)
      have HFV : Hid (fit f.v = true) := HF.out f (List.mem_of_getElem? hfi)
      have HLK : Hid (∀ W, Turn (fun _ => False) w1 W → (Instr.lookup 72 (.map (some b)) (kv9 f.k) false).run Try.prog W = .ok (cv ((findR f.k es).getD Cl.zero)) W) := fun W ht => lookup_run (HM1.out W ht) f.k
      have HKC := Lib.hid (HR.out.okat f.k)
      have HSO : Hid (∀ c, mergeC ((findR f.k es).getD Cl.zero) (Cl.of f.v) = some c → MapR l (i + 1) (setR f.k c es)) := fun c h => HR.out.step hfi HFV.out h
      have HNO : Hid (mergeC ((findR f.k es).getD Cl.zero) (Cl.of f.v) = none → ofR l = none) := fun h => HR.out.stop hfi h
      obtain ⟨⟨cn, cs, cl, ch⟩, hC⟩ : ∃ C, C = (findR f.k es).getD Cl.zero := ⟨_, rfl⟩
      rw [← hC] at HLK HKC HSO HNO
      unfold cv kv9 at HLK
      have HMC : Hid (∀ W, Calls Try.prog 33 #[.agg #[.int .i64 cn, .int .i64 cs, .int .i64 cl, .int .i64 ch], .agg #[.int .i64 1, .int .i64 f.v, .int .i64 f.v, .int .i64 f.v]] W fun e w' => e = .returned (outC (mergeC ⟨cn, cs, cl, ch⟩ (Cl.of f.v))) ∧ Turn (fun _ => False) W w') := fun W => merge_any cn cs cl ch 1 f.v f.v f.v W HKC (Lib.hid (okC_of HFV.out))
      have HOF : Hid (∀ W, Calls Try.prog 34 #[.int .i64 f.v] W fun e w' => e = .returned (.agg #[.int .i64 1, .int .i64 f.v, .int .i64 f.v, .int .i64 f.v]) ∧ Turn (fun _ => False) W w') := fun W => (of_any f.v W).mono fun _ _ ⟨e, hw⟩ => ⟨e, by rw [hw]; exact (Turn.refl _ W).alloc _⟩
      generalize mergeC ⟨cn, cs, cl, ch⟩ (Cl.of f.v) = o at *
      obtain ⟨n2, s2, lo2, hi2, ho2, hg2⟩ := outC_shape o
      rw [ho2] at HMC
      have HG2 := Lib.hid hg2
      obtain ⟨bb, hbb⟩ : ∃ bb, bb = o.isSome := ⟨_, rfl⟩
      rw [← hbb] at HMC
      have HBS := Lib.hid hbb
      have HW1 := Lib.hid hw1; have HGG := Lib.hid hg
      clear hc hfi ho2 hg2 hbb hw1 hg hC
      go_wp2_with fail
      rw [← HW1.out, ← HGG.out]
      refine drawn_region (fun W => Turn (fun _ => False) w1 W) [] (by kernel_rfl) ?_
      have hS0 : Turn (fun _ => False) w1 (World.drew w1) := (Turn.refl _ w1).drew
      generalize World.drew w1 = wd at *
      refine drawn_take 0 20 (.map (some b)) rfl rfl (by kernel_rfl) (by kernel_rfl) (by kernel_rfl) (by kernel_rfl) (fun _ _ _ h => h) (by rfl) (by assumption) (by intro w hSw; obtain hS1 := hSw; go_simp) ?_
      try simp only [List.setIfInBounds_toArray, List.set_cons_zero, List.set_cons_succ]
      refine drawn_take 1 21 (.pointer (some ⟨g, 0, none⟩)) rfl rfl (by kernel_rfl) (by kernel_rfl) (by kernel_rfl) (by kernel_rfl) (fun _ _ _ h => h) (by rfl) (by assumption) (by intro w hSw; obtain hS1 := hSw; go_simp) ?_
      try simp only [List.setIfInBounds_toArray, List.set_cons_zero, List.set_cons_succ]
      refine drawn_take 2 22 (.agg #[.int .i64 f.k.h, sv9 f.k.a, sv9 f.k.b, sv9 f.k.c, sv9 f.k.d]) rfl rfl (by kernel_rfl) (by kernel_rfl) (by kernel_rfl) (by kernel_rfl) (fun _ _ _ h => h) (by rfl) (by assumption) (by intro w hSw; have hb := HB1.out.turn hSw (fun f => f); have a0 := hb.cell 0; have a1 := hb.cell 1; have a2 := hb.cell 2; have a3 := hb.cell 3; have a4 := hb.cell 4; clear hSw hb; go_simp) ?_
      try simp only [List.setIfInBounds_toArray, List.set_cons_zero, List.set_cons_succ]
      refine drawn_take 3 23 (.agg #[.int .i64 cn, .int .i64 cs, .int .i64 cl, .int .i64 ch]) rfl rfl (by kernel_rfl) (by kernel_rfl) (by kernel_rfl) (by kernel_rfl) (fun _ _ _ h => h) (by rfl) (by assumption) (by intro w hSw; have hlk := HLK.out w hSw; clear hSw; go_simp) ?_
      try simp only [List.setIfInBounds_toArray, List.set_cons_zero, List.set_cons_succ]
      refine drawn_take 4 24 (.pointer (some ⟨g, 5, none⟩)) rfl rfl (by kernel_rfl) (by kernel_rfl) (by kernel_rfl) (by kernel_rfl) (fun _ _ _ h => h) (by rfl) (by assumption) (by intro w hSw; obtain hS1 := hSw; go_simp) ?_
      try simp only [List.setIfInBounds_toArray, List.set_cons_zero, List.set_cons_succ]
      refine drawn_take 5 25 (.int .i64 f.v) rfl rfl (by kernel_rfl) (by kernel_rfl) (by kernel_rfl) (by kernel_rfl) (fun _ _ _ h => h) (by rfl) (by assumption) (by intro w hSw; have a5 := (HB1.out.turn hSw (fun f => f)).cell 5; clear hSw; go_simp) ?_
      try simp only [List.setIfInBounds_toArray, List.set_cons_zero, List.set_cons_succ]
      refine drawn_any [6, 11] (by kernel_rfl) (by simp) ?_
      refine drawn_cons rfl (fun K hK => ?_) (drawn_cons rfl (fun K hK => ?_) drawn_nil)
      ·
        go_simp
        refine (HOF.out _).mono ?_
        rintro e w2 ⟨rfl, t2⟩
        have hS2 := hS0.trans t2 (fun _ _ f => f)
        refine hK.out _ _ _ hS2 ?_
        clear hK K
        try simp only [List.setIfInBounds_toArray, List.set_cons_zero, List.set_cons_succ]
        clear hS0 t2
        refine drawn_any [7, 11] (by kernel_rfl) (by simp) ?_
        refine drawn_cons rfl (fun K hK => ?_) (drawn_cons rfl (fun K hK => ?_) drawn_nil)
        ·
          go_simp
          refine (HMC.out _).mono ?_
          rintro e w3 ⟨rfl, t3⟩
          have hS3 := hS2.trans t3 (fun _ _ f => f)
          refine hK.out _ _ _ hS3 ?_
          clear hK K
          try simp only [List.setIfInBounds_toArray, List.set_cons_zero, List.set_cons_succ]
          refine drawn_take 8 19 (.tuple #[.agg #[.int .i64 n2, .int .i64 s2, .int .i64 lo2, .int .i64 hi2], .bool bb]) rfl rfl (by kernel_rfl) (by kernel_rfl) (by kernel_rfl) (by kernel_rfl) (fun _ _ _ h => h) (by rfl) (by assumption) (by intro w hSw; go_simp) ?_
          try simp only [List.setIfInBounds_toArray, List.set_cons_zero, List.set_cons_succ]
          refine drawn_take 9 28 (.agg #[.int .i64 n2, .int .i64 s2, .int .i64 lo2, .int .i64 hi2]) rfl rfl (by kernel_rfl) (by kernel_rfl) (by kernel_rfl) (by kernel_rfl) (fun _ _ _ h => h) (by rfl) (by assumption) (by intro w hSw; go_simp) ?_
          try simp only [List.setIfInBounds_toArray, List.set_cons_zero, List.set_cons_succ]
          refine drawn_take 10 29 (.bool bb) rfl rfl (by kernel_rfl) (by kernel_rfl) (by kernel_rfl) (by kernel_rfl) (fun _ _ _ h => h) (by rfl) (by assumption) (by intro w hSw; go_simp) ?_
          try simp only [List.setIfInBounds_toArray, List.set_cons_zero, List.set_cons_succ]
          clear hS2 t3
          refine drawn_any [11] (by kernel_rfl) (by simp) ?_
          refine drawn_cons rfl (fun K hK => ?_) drawn_nil
          go_simp
          obtain ⟨g6, hg6⟩ : ∃ g6, g6 = w3.heap.size := ⟨_, rfl⟩
          have hgr : w1.heap.size ≤ g6 := by rw [hg6]; exact hS3.size
          obtain ⟨w4, hw4⟩ : ∃ w4, w4 = w3.alloc (.cells #[.int .i64 0, .int .i64 0, .int .i64 0, .int .i64 0] 53) := ⟨_, rfl⟩
          have hb4 : Box w4 g6 53 #[.int .i64 0, .int .i64 0, .int .i64 0, .int .i64 0] := by rw [hw4, hg6]; exact Box.new w3 _ _
          have hS4 : Turn (fun _ => False) w1 w4 := by rw [hw4]; exact hS3.alloc _
          rw [← hw4, ← hg6]
          refine hK.out _ _ _ hS4 ?_
          clear hK K hS3 hw4 hg6
          try simp only [List.setIfInBounds_toArray, List.set_cons_zero, List.set_cons_succ]
          refine drawn_any [12] (by kernel_rfl) (by simp) ?_
          refine drawn_cons rfl (fun K hK => ?_) drawn_nil
          have HB4 : Hid (Box w4 g6 53 #[.int .i64 0, .int .i64 0, .int .i64 0, .int .i64 0]) := hb4
          have HTH : Hid (w4.there g6 0 4) := HB4.out.there (Nat.le_refl 4)
          refine put_box g6 0 (ca ⟨n2, s2, lo2, hi2⟩) HTH.out rfl rfl HSI.out (cell_one11 _) ?_
          obtain ⟨w5, hw5⟩ : ∃ w5, w5 = w4.setCells g6 0 (ca ⟨n2, s2, lo2, hi2⟩).toList := ⟨_, rfl⟩
          have HB6 : Hid (Box w5 g6 53 (ca ⟨n2, s2, lo2, hi2⟩)) := by rw [hw5]; exact HB4.out.all _ rfl
          have hS5 : Turn (fun _ => False) w1 w5 := by rw [hw5]; exact hS4.trans (turn_setCells (S := fun k => k = g6) rfl _ _ _) (fun k hk e => by have := hgr; omega)
          have e5 : w4.setCells g6 0 [.int .i64 n2, .int .i64 s2, .int .i64 lo2, .int .i64 hi2] = w5 := hw5.symm
          try rw [← hw5]
          try rw [e5]
          refine hK.out _ _ _ hS5 ?_
          clear hK K hw5 e5 HB4 HTH hb4 hS4
          try simp only [List.setIfInBounds_toArray, List.set_cons_zero, List.set_cons_succ]
          refine drawn_last1 13 8 (.bool bb) rfl rfl (by kernel_rfl) (by kernel_rfl) (by rfl) (by intro w; go_simp) hS5 ?_
          try simp only [List.setIfInBounds_toArray, List.set_cons_zero, List.set_cons_succ]
          have HFT := Lib.hid hS5
          have hbf := HB1.out.turn hS5 (fun f => f)
          have hm5 := HM1.out w5 hS5
          clear hS5
          cases o with
          | none =>
            have eb : bb = false := HBS.out
            subst eb
            have HE : Hid (ofR l = none) := HNO.out rfl
            clear hbf hm5
            go_wp2
            go_ret2
            exact ⟨_, by rw [HE.out]; rfl, by rw [HE.out]; exact SV11.nil _, (HT.out.trans HT1.out (fun _ _ f => f)).trans HFT.out (fun _ _ f => f)⟩
          | some d =>
            have eb : bb = true := HBS.out
            subst eb
            have ed2 : d = ⟨n2, s2, lo2, hi2⟩ := HG2.out
            subst ed2
            have HNX := Lib.hid (HSO.out _ rfl)
            have hst := store_run hm5 f.k ⟨n2, s2, lo2, hi2⟩
            have hsd := stored hm5 (setR f.k ⟨n2, s2, lo2, hi2⟩ es)
            obtain ⟨w6, hw6⟩ : ∃ w6, w6 = Go.ChangeMaps.setBlock w5 b (.map (entsR (setR f.k ⟨n2, s2, lo2, hi2⟩ es)) (setR f.k ⟨n2, s2, lo2, hi2⟩ es).length) := ⟨_, rfl⟩
            rw [← hw6] at hst hsd
            unfold kv9 cv at hst
            have HSD := Lib.hid hsd
            obtain ⟨⟨b0, b1, b2, b3⟩, _⟩ := box_cells HB6.out
            have k0 := hbf.cell 0
            have k1 := hbf.cell 1
            have k2 := hbf.cell 2
            have k3 := hbf.cell 3
            have k4 := hbf.cell 4
            clear hbf hm5 hsd hw6
            go_wp2
            go_roundw
            case rel => exact ⟨i + 1, _, by go_num, hlt, HSD.out.1, HNX.out, ((HT.out.trans HT1.out (fun _ _ f => f)).trans HFT.out (fun _ _ f => f)).trans HSD.out.2 (fun k hk e => by have := HBB.out; omega)⟩
            case measure => simp [intOf]; omega
        · go_simp
          obtain ⟨g6, hg6⟩ : ∃ g6, g6 = w2.heap.size := ⟨_, rfl⟩
          have hgr : w1.heap.size ≤ g6 := by rw [hg6]; exact hS2.size
          obtain ⟨wa, hwa⟩ : ∃ wa, wa = w2.alloc (.cells #[.int .i64 0, .int .i64 0, .int .i64 0, .int .i64 0] 53) := ⟨_, rfl⟩
          have HBA : Hid (True ∧ Box wa g6 53 #[.int .i64 0, .int .i64 0, .int .i64 0, .int .i64 0]) := ⟨trivial, by rw [hwa, hg6]; exact Box.new w2 _ _⟩
          have hSa : Turn (fun _ => False) w1 wa := by rw [hwa]; exact hS2.alloc _
          rw [← hwa, ← hg6]
          refine hK.out _ _ _ hSa ?_
          clear hK K hS2 hwa hg6
          try simp only [List.setIfInBounds_toArray, List.set_cons_zero, List.set_cons_succ]
          refine drawn_any [7] (by kernel_rfl) (by simp) ?_
          refine drawn_cons rfl (fun K hK => ?_) drawn_nil
          have hS2 := hSa
          clear hSa
          go_simp
          refine (HMC.out _).mono ?_
          rintro e w3 ⟨rfl, t3⟩
          have hS3 := hS2.trans t3 (fun _ _ f => f)
          refine hK.out _ _ _ hS3 ?_
          clear hK K
          try simp only [List.setIfInBounds_toArray, List.set_cons_zero, List.set_cons_succ]
          refine drawn_take 8 19 (.tuple #[.agg #[.int .i64 n2, .int .i64 s2, .int .i64 lo2, .int .i64 hi2], .bool bb]) rfl rfl (by kernel_rfl) (by kernel_rfl) (by kernel_rfl) (by kernel_rfl) (fun _ _ _ h => h) (by rfl) (by assumption) (by intro w hSw; go_simp) ?_
          try simp only [List.setIfInBounds_toArray, List.set_cons_zero, List.set_cons_succ]
          refine drawn_take 9 28 (.agg #[.int .i64 n2, .int .i64 s2, .int .i64 lo2, .int .i64 hi2]) rfl rfl (by kernel_rfl) (by kernel_rfl) (by kernel_rfl) (by kernel_rfl) (fun _ _ _ h => h) (by rfl) (by assumption) (by intro w hSw; go_simp) ?_
          try simp only [List.setIfInBounds_toArray, List.set_cons_zero, List.set_cons_succ]
          refine drawn_take 10 29 (.bool bb) rfl rfl (by kernel_rfl) (by kernel_rfl) (by kernel_rfl) (by kernel_rfl) (fun _ _ _ h => h) (by rfl) (by assumption) (by intro w hSw; go_simp) ?_
          try simp only [List.setIfInBounds_toArray, List.set_cons_zero, List.set_cons_succ]
          have hb4 := HBA.out.2.turn t3 (fun f => f)
          obtain ⟨w4, hw4⟩ : ∃ w4, w4 = w3 := ⟨_, rfl⟩
          subst hw4
          have hS4 := hS3
          clear hS2 t3 HBA hS3
          refine drawn_any [12] (by kernel_rfl) (by simp) ?_
          refine drawn_cons rfl (fun K hK => ?_) drawn_nil
          have HB4 : Hid (Box w4 g6 53 #[.int .i64 0, .int .i64 0, .int .i64 0, .int .i64 0]) := hb4
          have HTH : Hid (w4.there g6 0 4) := HB4.out.there (Nat.le_refl 4)
          refine put_box g6 0 (ca ⟨n2, s2, lo2, hi2⟩) HTH.out rfl rfl HSI.out (cell_one11 _) ?_
          obtain ⟨w5, hw5⟩ : ∃ w5, w5 = w4.setCells g6 0 (ca ⟨n2, s2, lo2, hi2⟩).toList := ⟨_, rfl⟩
          have HB6 : Hid (Box w5 g6 53 (ca ⟨n2, s2, lo2, hi2⟩)) := by rw [hw5]; exact HB4.out.all _ rfl
          have hS5 : Turn (fun _ => False) w1 w5 := by rw [hw5]; exact hS4.trans (turn_setCells (S := fun k => k = g6) rfl _ _ _) (fun k hk e => by have := hgr; omega)
          have e5 : w4.setCells g6 0 [.int .i64 n2, .int .i64 s2, .int .i64 lo2, .int .i64 hi2] = w5 := hw5.symm
          try rw [← hw5]
          try rw [e5]
          refine hK.out _ _ _ hS5 ?_
          clear hK K hw5 e5 HB4 HTH hb4 hS4
          try simp only [List.setIfInBounds_toArray, List.set_cons_zero, List.set_cons_succ]
          refine drawn_last1 13 8 (.bool bb) rfl rfl (by kernel_rfl) (by kernel_rfl) (by rfl) (by intro w; go_simp) hS5 ?_
          try simp only [List.setIfInBounds_toArray, List.set_cons_zero, List.set_cons_succ]
          have HFT := Lib.hid hS5
          have hbf := HB1.out.turn hS5 (fun f => f)
          have hm5 := HM1.out w5 hS5
          clear hS5
          cases o with
          | none =>
            have eb : bb = false := HBS.out
            subst eb
            have HE : Hid (ofR l = none) := HNO.out rfl
            clear hbf hm5
            go_wp2
            go_ret2
            exact ⟨_, by rw [HE.out]; rfl, by rw [HE.out]; exact SV11.nil _, (HT.out.trans HT1.out (fun _ _ f => f)).trans HFT.out (fun _ _ f => f)⟩
          | some d =>
            have eb : bb = true := HBS.out
            subst eb
            have ed2 : d = ⟨n2, s2, lo2, hi2⟩ := HG2.out
            subst ed2
            have HNX := Lib.hid (HSO.out _ rfl)
            have hst := store_run hm5 f.k ⟨n2, s2, lo2, hi2⟩
            have hsd := stored hm5 (setR f.k ⟨n2, s2, lo2, hi2⟩ es)
            obtain ⟨w6, hw6⟩ : ∃ w6, w6 = Go.ChangeMaps.setBlock w5 b (.map (entsR (setR f.k ⟨n2, s2, lo2, hi2⟩ es)) (setR f.k ⟨n2, s2, lo2, hi2⟩ es).length) := ⟨_, rfl⟩
            rw [← hw6] at hst hsd
            unfold kv9 cv at hst
            have HSD := Lib.hid hsd
            obtain ⟨⟨b0, b1, b2, b3⟩, _⟩ := box_cells HB6.out
            have k0 := hbf.cell 0
            have k1 := hbf.cell 1
            have k2 := hbf.cell 2
            have k3 := hbf.cell 3
            have k4 := hbf.cell 4
            clear hbf hm5 hsd hw6
            go_wp2
            go_roundw
            case rel => exact ⟨i + 1, _, by go_num, hlt, HSD.out.1, HNX.out, ((HT.out.trans HT1.out (fun _ _ f => f)).trans HFT.out (fun _ _ f => f)).trans HSD.out.2 (fun k hk e => by have := HBB.out; omega)⟩
            case measure => simp [intOf]; omega
      · go_simp
        obtain ⟨g6, hg6⟩ : ∃ g6, g6 = wd.heap.size := ⟨_, rfl⟩
        have hgr : w1.heap.size ≤ g6 := by rw [hg6]; exact hS0.size
        obtain ⟨wa, hwa⟩ : ∃ wa, wa = wd.alloc (.cells #[.int .i64 0, .int .i64 0, .int .i64 0, .int .i64 0] 53) := ⟨_, rfl⟩
        have HBA : Hid (True ∧ Box wa g6 53 #[.int .i64 0, .int .i64 0, .int .i64 0, .int .i64 0]) := ⟨trivial, by rw [hwa, hg6]; exact Box.new wd _ _⟩
        have hSa : Turn (fun _ => False) w1 wa := by rw [hwa]; exact hS0.alloc _
        rw [← hwa, ← hg6]
        refine hK.out _ _ _ hSa ?_
        clear hK K hS0 hwa hg6
        try simp only [List.setIfInBounds_toArray, List.set_cons_zero, List.set_cons_succ]
        refine drawn_any [6] (by kernel_rfl) (by simp) ?_
        refine drawn_cons rfl (fun K hK => ?_) drawn_nil
        have hS0 := hSa
        clear hSa
        go_simp
        refine (HOF.out _).mono ?_
        rintro e w2 ⟨rfl, t2⟩
        have hS2 := hS0.trans t2 (fun _ _ f => f)
        refine hK.out _ _ _ hS2 ?_
        clear hK K
        try simp only [List.setIfInBounds_toArray, List.set_cons_zero, List.set_cons_succ]
        have HBC : Hid (True ∧ Box w2 g6 53 #[.int .i64 0, .int .i64 0, .int .i64 0, .int .i64 0]) := ⟨trivial, HBA.out.2.turn t2 (fun f => f)⟩
        clear hS0 t2 HBA
        refine drawn_any [7] (by kernel_rfl) (by simp) ?_
        refine drawn_cons rfl (fun K hK => ?_) drawn_nil
        go_simp
        refine (HMC.out _).mono ?_
        rintro e w3 ⟨rfl, t3⟩
        have hS3 := hS2.trans t3 (fun _ _ f => f)
        refine hK.out _ _ _ hS3 ?_
        clear hK K
        try simp only [List.setIfInBounds_toArray, List.set_cons_zero, List.set_cons_succ]
        refine drawn_take 8 19 (.tuple #[.agg #[.int .i64 n2, .int .i64 s2, .int .i64 lo2, .int .i64 hi2], .bool bb]) rfl rfl (by kernel_rfl) (by kernel_rfl) (by kernel_rfl) (by kernel_rfl) (fun _ _ _ h => h) (by rfl) (by assumption) (by intro w hSw; go_simp) ?_
        try simp only [List.setIfInBounds_toArray, List.set_cons_zero, List.set_cons_succ]
        refine drawn_take 9 28 (.agg #[.int .i64 n2, .int .i64 s2, .int .i64 lo2, .int .i64 hi2]) rfl rfl (by kernel_rfl) (by kernel_rfl) (by kernel_rfl) (by kernel_rfl) (fun _ _ _ h => h) (by rfl) (by assumption) (by intro w hSw; go_simp) ?_
        try simp only [List.setIfInBounds_toArray, List.set_cons_zero, List.set_cons_succ]
        refine drawn_take 10 29 (.bool bb) rfl rfl (by kernel_rfl) (by kernel_rfl) (by kernel_rfl) (by kernel_rfl) (fun _ _ _ h => h) (by rfl) (by assumption) (by intro w hSw; go_simp) ?_
        try simp only [List.setIfInBounds_toArray, List.set_cons_zero, List.set_cons_succ]
        have hb4 := HBC.out.2.turn t3 (fun f => f)
        obtain ⟨w4, hw4⟩ : ∃ w4, w4 = w3 := ⟨_, rfl⟩
        subst hw4
        have hS4 := hS3
        clear hS2 t3 HBC hS3
        refine drawn_any [12] (by kernel_rfl) (by simp) ?_
        refine drawn_cons rfl (fun K hK => ?_) drawn_nil
        have HB4 : Hid (Box w4 g6 53 #[.int .i64 0, .int .i64 0, .int .i64 0, .int .i64 0]) := hb4
        have HTH : Hid (w4.there g6 0 4) := HB4.out.there (Nat.le_refl 4)
        refine put_box g6 0 (ca ⟨n2, s2, lo2, hi2⟩) HTH.out rfl rfl HSI.out (cell_one11 _) ?_
        obtain ⟨w5, hw5⟩ : ∃ w5, w5 = w4.setCells g6 0 (ca ⟨n2, s2, lo2, hi2⟩).toList := ⟨_, rfl⟩
        have HB6 : Hid (Box w5 g6 53 (ca ⟨n2, s2, lo2, hi2⟩)) := by rw [hw5]; exact HB4.out.all _ rfl
        have hS5 : Turn (fun _ => False) w1 w5 := by rw [hw5]; exact hS4.trans (turn_setCells (S := fun k => k = g6) rfl _ _ _) (fun k hk e => by have := hgr; omega)
        have e5 : w4.setCells g6 0 [.int .i64 n2, .int .i64 s2, .int .i64 lo2, .int .i64 hi2] = w5 := hw5.symm
        try rw [← hw5]
        try rw [e5]
        refine hK.out _ _ _ hS5 ?_
        clear hK K hw5 e5 HB4 HTH hb4 hS4
        try simp only [List.setIfInBounds_toArray, List.set_cons_zero, List.set_cons_succ]
        refine drawn_last1 13 8 (.bool bb) rfl rfl (by kernel_rfl) (by kernel_rfl) (by rfl) (by intro w; go_simp) hS5 ?_
        try simp only [List.setIfInBounds_toArray, List.set_cons_zero, List.set_cons_succ]
        have HFT := Lib.hid hS5
        have hbf := HB1.out.turn hS5 (fun f => f)
        have hm5 := HM1.out w5 hS5
        clear hS5
        cases o with
        | none =>
          have eb : bb = false := HBS.out
          subst eb
          have HE : Hid (ofR l = none) := HNO.out rfl
          clear hbf hm5
          go_wp2
          go_ret2
          exact ⟨_, by rw [HE.out]; rfl, by rw [HE.out]; exact SV11.nil _, (HT.out.trans HT1.out (fun _ _ f => f)).trans HFT.out (fun _ _ f => f)⟩
        | some d =>
          have eb : bb = true := HBS.out
          subst eb
          have ed2 : d = ⟨n2, s2, lo2, hi2⟩ := HG2.out
          subst ed2
          have HNX := Lib.hid (HSO.out _ rfl)
          have hst := store_run hm5 f.k ⟨n2, s2, lo2, hi2⟩
          have hsd := stored hm5 (setR f.k ⟨n2, s2, lo2, hi2⟩ es)
          obtain ⟨w6, hw6⟩ : ∃ w6, w6 = Go.ChangeMaps.setBlock w5 b (.map (entsR (setR f.k ⟨n2, s2, lo2, hi2⟩ es)) (setR f.k ⟨n2, s2, lo2, hi2⟩ es).length) := ⟨_, rfl⟩
          rw [← hw6] at hst hsd
          unfold kv9 cv at hst
          have HSD := Lib.hid hsd
          obtain ⟨⟨b0, b1, b2, b3⟩, _⟩ := box_cells HB6.out
          have k0 := hbf.cell 0
          have k1 := hbf.cell 1
          have k2 := hbf.cell 2
          have k3 := hbf.cell 3
          have k4 := hbf.cell 4
          clear hbf hm5 hsd hw6
          go_wp2
          go_roundw
          case rel => exact ⟨i + 1, _, by go_num, hlt, HSD.out.1, HNX.out, ((HT.out.trans HT1.out (fun _ _ f => f)).trans HFT.out (fun _ _ f => f)).trans HSD.out.2 (fun k hk e => by have := HBB.out; omega)⟩
          case measure => simp [intOf]; omega
    · obtain rfl : i = l.length := by omega
      have hesl := HR.out.len
      have hmk := made_rows11 es.length (by omega) wr
      have HN0 := Lib.hid (new_rows11 es.length (by omega) wr)
      have hln := fun ty => len_run HM.out ty
      have hmt := HM.out.turn ((Turn.refl (fun _ => False) wr).alloc (.cells (madeCells (Value.cells zv11) (es.length * 9)) 55)) (fun f => f)
      have hrg := range_run hmt
      obtain ⟨w2, hw2⟩ : ∃ w2, w2 = (wr.alloc (.cells (madeCells (Value.cells zv11) (es.length * 9)) 55)).alloc (.mapIter (some b) es.length #[] es.length) := ⟨_, rfl⟩
      obtain ⟨R, hR⟩ : ∃ R, R = (wr.alloc (.cells (madeCells (Value.cells zv11) (es.length * 9)) 55)).heap.size := ⟨_, rfl⟩
      have HM2 : Hid (MapIs w2 b es) := by rw [hw2]; exact hmt.turn ((Turn.refl (fun _ => False) _).alloc _) (fun f => f)
      have HI2 : Hid (IterIs w2 R b es #[]) := by rw [hw2, hR]; exact heap_alloc_new _ _
      have HN2 : Hid (NewE ER 55 wr w2 (.slice (some ⟨wr.heap.size, 0, none⟩) 0 es.length) []) := by rw [hw2]; exact HN0.out.alloc _
      have HRB : Hid (R ≠ b ∧ wr.heap.size ≤ R ∧ b < wr.heap.size) := by
        have h1 := HM.out.lt
        refine ⟨?_, ?_, h1⟩
        · rw [hR, World.size_alloc]; omega
        · rw [hR, World.size_alloc]; omega
      rw [← hw2, ← hR] at hrg
      have HRR : Hid (R = wr.heap.size + 1) := by show R = _; rw [hR, World.size_alloc]
      simp only [Value.cells] at hrg hmk
      have HES := Lib.hid hesl
      clear hmt hw2 hR
      go_wp2_with fail
      clear hmk hrg hln
      go_loopw [9] (fun x9 wz => ∃ (done : List R11) (seen : Array Nat), NewE ER 55 wr wz x9 done ∧ MapIs wz b es ∧ IterIs wz R b es seen ∧ ((leftR es seen).map (·.1) ++ done).Perm es) (fun x9 _ => es.length - vlen11 x9)
      case atStart => exact ⟨[], #[], HN2.out, HM2.out, HI2.out, by rw [left_all, List.append_nil, List.zipIdx_map_fst]⟩
      case round =>
        clear HN2 HM2 HI2 HM HN0
        obtain ⟨done, seen, hn, hm, hi, hp⟩ := hrel
        have HN := Lib.hid hn; have HM := Lib.hid hm; have HI := Lib.hid hi; have HP := Lib.hid hp
        obtain ⟨A9, c9, rfl⟩ := hn.own.shape
        have hdl : (leftR es seen).length + done.length = es.length := by have h := hp.length_eq; rw [List.length_append, List.length_map] at h; exact h
        rcases next_run hm hi 0 with ⟨h0, hnx⟩ | ⟨p, hpl, wx, hwx, hnx⟩
        · have HPE : Hid (done.Perm es) := by show List.Perm _ _; rw [h0, List.map_nil, List.nil_append] at hp; exact hp
          have hnx2 : ∀ ty, (Instr.next (.pointer (some ⟨R, 0, none⟩)) false ty).run Try.prog wr = .ok (.tuple #[.bool false]) wr := fun ty => hnx
          clear hn hm hi hp hnx h0
          have HOD : Hid (OnceK done) := (HPE.out.symm.pairwise_iff (R := fun a b : R11 => a.k ≠ b.k) (fun h => Ne.symm h)).1 HR.out.once
          have HSO := Lib.hid (sortfunc11 _ done wr HN.out.own HOD.out (by have := HES.out; omega))
          go_wp2_with fail
          refine HSO.out.mono ?_
          rintro e w5 ⟨rfl, s5, hsp, hsr, hso, hst⟩
          have HE : Hid (ofR l = some s5) := HR.out.all hsr (hsp.trans HPE.out)
          have HO5 := Lib.hid hso
          have HT5 : Hid (Turn (fun _ => False) w w5) := (HT.out.trans HN.out.turn (fun _ _ f => f)).trans hst (fun k hk e => by have h1 := HN.out.new k e; have h2 := HT.out.size; omega)
          have HRT : Hid (rightR s5 = true ∧ (∀ r ∈ s5, okC r.c) ∧ s5.length ≤ 20000) := puts_right (rows_ok HF.out) HE.out (by rw [List.length_map]; exact hl)
          have hsl : s5.length = done.length := hsp.length_eq
          clear hsp hsr hso hst HSO hnx2
          go_wp2
          go_ret2
          exact ⟨_, by rw [HE.out]; rfl, by rw [HE.out]; exact SV11.new HO5.out.rd HRT.out, HT5.out.alloc _⟩
        · have hpz : p ∈ es.zipIdx := (List.mem_filter.1 hpl).1
          obtain ⟨hI3, hT3⟩ := iterated hi hwx (seen.push p.2)
          have hperm := left_step hpl
          obtain ⟨w3, hw3⟩ : ∃ w3, w3 = Go.ChangeMaps.setBlock wx R (.mapIter (some b) es.length (seen.push p.2) es.length) := ⟨_, rfl⟩
          rw [← hw3] at hnx hI3 hT3
          have hm3 := hm.turn hT3 (fun e => HRB.out.1 e.symm)
          have hen := entry_run hm3 hpz hI3
          have HM3 := Lib.hid hm3; have HI3 := Lib.hid hI3
          have hno : ∀ k, (Value.slice A9 done.length c9).ownBlock = some k → ¬ k = R := fun k hk e => by
            rcases hn.own.form with ⟨e1, _⟩ | ⟨g, cap, cur, e1, hb, _⟩
            · rw [e1] at hk; simp [Value.ownBlock] at hk
            · rw [e1] at hk
              have : g = k := by simpa [Value.ownBlock] using hk
              rw [this, e] at hb
              have h1 : wr.heap[R]? = _ := hi
              rw [show wr.heap[R]? = _ from hb] at h1
              cases h1
          have hn3 : NewE ER 55 _ w3 (.slice A9 done.length c9) done := ⟨hn.own.turn hT3 hno, hn.new, hn.turn.trans hT3 (fun k hk e => by have := HRB.out.2.1; omega)⟩
          have HN3 := Lib.hid hn3; have HNO := Lib.hid hno
          have HPM := Lib.hid hperm
          have hll : (leftR es (seen.push p.2)).length + 1 = (leftR es seen).length := by have h := hperm.length_eq; simp only [List.length_cons] at h; omega
          obtain ⟨x, j⟩ := p
          dsimp only at hnx hen hll HPM HI3
          have hnx2 : ∀ ty, (Instr.next (.pointer (some ⟨R, 0, none⟩)) false ty).run Try.prog wr = .ok (.tuple #[.bool true, kv9 x.k, cv x.c]) w3 := fun ty => hnx
          unfold kv9 cv at hnx2 hen
          have HN4 := Lib.hid (((HN3.out.alloc (.cells #[.int .i64 x.k.h, sv9 x.k.a, sv9 x.k.b, sv9 x.k.c, sv9 x.k.d] 44)).alloc (.cells #[.int .i64 x.c.n, .int .i64 x.c.s, .int .i64 x.c.lo, .int .i64 x.c.hi] 53)).alloc (.cells (ER.enc x).toArray 55))
          have HT4 : Hid (Turn (fun _ => False) w3 (((w3.alloc (.cells #[.int .i64 x.k.h, sv9 x.k.a, sv9 x.k.b, sv9 x.k.c, sv9 x.k.d] 44)).alloc (.cells #[.int .i64 x.c.n, .int .i64 x.c.s, .int .i64 x.c.lo, .int .i64 x.c.hi] 53)).alloc (.cells (ER.enc x).toArray 55))) := (((Turn.refl _ w3).alloc _).alloc _).alloc _
          have hx0 := one_row ER 55 ((w3.alloc (.cells #[.int .i64 x.k.h, sv9 x.k.a, sv9 x.k.b, sv9 x.k.c, sv9 x.k.d] 44)).alloc (.cells #[.int .i64 x.c.n, .int .i64 x.c.s, .int .i64 x.c.lo, .int .i64 x.c.hi] 53)) x
          rw [World.size_alloc, World.size_alloc] at hx0
          have HX := Lib.hid hx0
          have hdle : done.length + 1 ≤ es.length := by omega
          clear hn hm hi hp hnx hI3 hT3 hperm hm3 hno hn3 hx0 hw3 hwx hpl hpz
          go_wp2_with (at_builtin; refine wpList_rows11 _ rfl _ _ rfl _ done rfl HN4.out.own _ rfl [x] HX.out (by have := HES.out; simp only [List.length_cons, List.length_nil]; omega) ?_; intro A5 n5 c5 w5 ho ht hn; have HN5 := Lib.hid (HN4.out.step ho ht hn); have HT5 := Lib.hid ht; have HO5 := Lib.hid ho; clear ho ht hn)
          obtain ⟨A6, c6, e6⟩ := HO5.out.shape
          injection e6 with e61 e62 e63
          subst e62
          refine ⟨⟨done ++ [x], seen.push j, HN5.out, ?_, ?_, ?_⟩, ?_⟩
          · exact (HM3.out.turn HT4.out (fun f => f)).turn HT5.out (fun e => by have h1 := HN3.out.new _ e; have h2 := HRB.out.2.2; omega)
          · exact (HI3.out.turn HT4.out (fun f => f)).turn HT5.out (fun e => HNO.out _ e rfl)
          · have h1 := (HPM.out.map (·.1)).append_right done
            rw [List.map_cons] at h1
            refine List.Perm.trans ?_ (h1.symm.trans HP.out)
            rw [← List.append_assoc]
            exact (List.perm_append_singleton x _).trans (List.Perm.refl _)
          · show es.length - (done ++ [x]).length < es.length - done.length
            rw [List.length_append, List.length_singleton]
            omega

end Go.Proofs.Ytklpmajaihmmfaa
