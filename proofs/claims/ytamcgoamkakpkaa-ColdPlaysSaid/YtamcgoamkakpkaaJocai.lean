/-
  Texts laid one behind the other: Q4u3.
-/
import Derived.Test.YtamcgoamkakpkaaJocag
import Derived.Test.YtamcgoamkakpkaaJocah

/-
  Stage 16, the program (trial): Bytes, Names.
-/
namespace Go.Proofs.Ytamcgoamkakpkaa
open Go.RowKit Go.Shelf
attribute [local go_sem] Oper.semAt_some wide_fn

set_option maxRecDepth 100000

theorem fm_at15 {V U : Type} {f : V → U} {l : List (List UInt8 × V)} {i : Nat} {y : List UInt8 × U} (h : (fm15 f l)[i]? = some y) : ∃ q, l[i]? = some q ∧ y = (q.1, f q.2) := by
  unfold fm15 at h
  rw [List.getElem?_map] at h
  cases e : l[i]? with
  | none => rw [e] at h; cases h
  | some q => rw [e] at h; cases h; exact ⟨q, rfl, rfl⟩
/-- How many bytes the first i objects have. -/
def sum16 (M : PM16) (i : Nat) : Int := bytes16 (fm15 PB16.b (M.take i))
theorem sum_next16 {M : PM16} {i : Nat} {q : List UInt8 × PB16} (h : M[i]? = some q) : sum16 M (i + 1) = sum16 M i + (q.2.b.length : Int) := by
  unfold sum16
  rw [take_snoc16 h]
  unfold fm15
  rw [List.map_append]
  exact bytes_snoc16 _ _
theorem sum_le16 {M : PM16} {d : C16} (h : fm15 PB16.b M = d.l) (hb : BdP16 d) (i : Nat) : 0 ≤ sum16 M i ∧ sum16 M i ≤ 40000000000 := by
  have h1 := bytes_le16 (l := fm15 PB16.b (M.take i)) (m := 4194304) (fun p hp => by
    have hp2 : p ∈ d.l := by
      rw [← h]
      unfold fm15 at hp ⊢
      obtain ⟨q, hq, e⟩ := List.mem_map.1 hp
      exact List.mem_map.2 ⟨q, List.mem_of_mem_take hq, e⟩
    exact hb.ok.objs p hp2)
  have h2 : (fm15 PB16.b (M.take i)).length ≤ 9000 := by
    rw [fm_len15, List.length_take]
    have := hb.len
    rw [← h, fm_len15] at this
    omega
  have h3 : ((fm15 PB16.b (M.take i)).length * 4194304 : Nat) ≤ 9000 * 4194304 := Nat.mul_le_mul_right _ h2
  unfold sum16
  exact ⟨h1.1, by omega⟩

set_option maxHeartbeats 8000000 in
theorem bytes_any16 {w : World} {F : Nat → Prop} {g : Nat} {d : C16} (hm : DM16 w F g d) (hbd : BdP16 d) : Calls Try.prog 13 #[.pointer (some ⟨g, 0, none⟩)] w fun e w' => SaysP16 w (.int .i64 (bytes16 d.l)) e w' := by
  obtain ⟨M, tv, rfl, h, e⟩ := hm
  have HD := Lib.hid h
  have HS : Hid (∀ i, 0 ≤ sum16 M i ∧ sum16 M i ≤ 40000000000) := sum_le16 e hbd
  have HLL : Hid (∀ q ∈ M, q.2.b.length ≤ 4194304) := fun q hq => hbd.ok.objs (q.1, q.2.b) (by rw [← e]; exact List.mem_map.2 ⟨q, hq, rfl⟩)
  have HE : Hid (sum16 M M.length = bytes16 d.l) := by show _ = _; unfold sum16; rw [List.take_length, e]
  obtain ⟨q, hq⟩ : ∃ q, q = w.heap.size := ⟨_, rfl⟩
  obtain ⟨w1, hw1⟩ : ∃ w1, w1 = w.alloc (.cells #[.int .i64 0] 2) := ⟨_, rfl⟩
  have HB1 : Hid (Box w1 q 2 #[.int .i64 0]) := by rw [hw1, hq]; exact Box.new w _ _
  have HT1 : Hid (Turn (fun _ => False) w w1) := by rw [hw1]; exact (Turn.refl _ w).alloc _
  have HQ := Lib.hid hq
  have HW1 := Lib.hid hw1
  clear h e hbd hq hw1
  refine (callsIn_wide (n := 5)).1 ?_
  refine callsIn_of_wp_marks Try.func13 rfl trivial ?_ rfl
  simp only [Try.ntmps13, List.size_toArray, List.length_cons, List.length_nil, Nat.reduceAdd, Nat.reduceSub, Array.replicate_succ, Array.replicate_zero, List.push_toArray, List.append_toArray, List.nil_append, List.cons_append]
  refine wpIn_wide.2 ?_
  go_wp2_with fail
  rw [← HW1.out, ← HQ.out]
  refine (omb.all_any (HD.out.later HT1.out).map).mono ?_
  rintro e w5 ⟨q1, q2, rfl, hr⟩
  have HRA := Lib.hid hr
  have HB5 := Lib.hid (HB1.out.turn hr.turn (fun f => f))
  have HTW5 : Hid (Turn (fun _ => False) w w5) := HT1.out.trans hr.turn (fun _ _ f => f)
  have HD5 := Lib.hid (HD.out.later HTW5.out)
  obtain ⟨A5, x5, hq1, hq2, -, -⟩ := hr.out
  have HQQ : Hid (q < q1 ∧ q < q2 ∧ q1 < w5.heap.size ∧ q2 < w5.heap.size ∧ q < w5.heap.size) := by
    have h1 := HB1.out.lt
    exact ⟨by have := hr.new1; omega, by have := hr.new2; omega, hq1.lt, hq2.lt, HB5.out.lt⟩
  clear hr hq1 hq2
  unfold omb.RisV
  go_wp2_with fail
  refine (wpIn_wide (n := 5)).1 ?_
  refine' over2 (n := 5) (by omega) (gf := 45) (lb := #[.pointer (some ⟨q1, 0, none⟩), .pointer (some ⟨q2, 0, none⟩)]) rfl (enters_of Try.func45 (by kernel_rfl) rfl)
    (omb.all_feeds 4 HRA.out (fun k => k = q ∨ k = w5.heap.size + 1) (by have := HQQ.out; omega) (by have := HQQ.out; omega) ⟨fun i cs hb e => by
      rcases e with e | e
      · exact box_ne10 hb HB5.out (by decide) e
      · have := hb.lt; omega⟩) (Turn.refl _ _) (Or.inr rfl) (fun k e => by have := HQQ.out; omega) (fun pre => fun _ _ _ h _ => h) (fun _ => rfl)
    (fun (pre : List ((List UInt8) × SlB)) V => Box V q 2 #[.int .i64 (sum16 M pre.length)] ∧ Turn (fun k => k = q) w5 V)
    (fun _ _ _ => False) (Holds.and (holds_box _ _ _ (fun (pre : List ((List UInt8) × SlB)) => #[.int .i64 (sum16 M pre.length)])) (holds_turn (fun k h1 h2 => by omega))) (fun _ _ _ _ h _ => h) ⟨HB5.out, Turn.refl _ _⟩ _ ?assign ?body ?done ?stop
  case assign =>
    intro l0 x W K hK
    have HK := Lib.hid hK; clear hK
    gi_wp2
    exact HK.out
  case stop =>
    rintro D c0 pre V _ _ h _
    exact h.elim
  case body =>
    rintro l0 pre y V ⟨hb, ht⟩ hgv
    obtain ⟨p, hp, rfl⟩ := fm_at15 (pre_at10 hgv).1
    have hmem := List.mem_of_getElem? hp
    have HFV : Hid (OB16 V p.2) := (HD5.out.objs _ hmem).turn ht (fun k cs hi e => by subst e; exact absurd (box_typ16 hi HB5.out) (by decide))
    have HSN := Lib.hid (sum_next16 hp)
    have hs1 := (HS.out (pre.length + 1))
    rw [HSN.out] at hs1
    have hs0 := (HS.out pre.length)
    have HB := Lib.hid hb; have HTV := Lib.hid ht
    have cB := hb.cell 0
    have fB := hb.free 0
    obtain ⟨Ap, cp, hsl⟩ := HFV.out.rd.shape
    have hpn : p.2.sl.n = p.2.b.length := by injection hsl
    clear hb ht hgv hp hmem hsl
    dsimp only
    rw [hpn]
    have hl1 : (pre ++ [(p.1, p.2.sl)]).length = pre.length + 1 := by rw [List.length_append]; rfl
    have HL1 := Lib.hid hl1
    have hwr : IntKind.i64.wrap (sum16 M pre.length + (p.2.b.length : Int)) = sum16 M pre.length + (p.2.b.length : Int) := IntWalk.i64_in _ (by omega)
    clear hl1 hs0 hs1 hpn
    generalize sum16 M pre.length = s0 at *
    generalize p.2.b.length = N at *
    gi_wp2
    have hst : Turn (fun k => k = q) V (V.setCell ⟨q, 0, none⟩ (.int .i64 (s0 + (N : Int)))) := Turn.setCell (S := fun k => k = q) (p := ⟨q, 0, none⟩) (Turn.refl _ V) (fun _ => rfl) _
    refine ⟨?_, ?_, ?_⟩
    · exact Still.setCell _ _ _
    · exact hst.mono (fun _ _ e => .inl e)
    · refine ⟨?_, HTV.out.trans hst (fun _ _ e => e)⟩
      rw [HL1.out, HSN.out]
      exact HB.out.set 0 (.int .i64 (s0 + (N : Int)))
  case done =>
    rintro D xs V hD hA ⟨hb, ht⟩ hK
    subst hA
    rw [fm_len15, HE.out] at hb
    have c0 := hb.cell 0
    have HTV := Lib.hid ht; have HKD := Lib.hid hK; have HDD := Lib.hid hD
    clear hb ht hK hD
    go_wp2
    have k1 : V.heap[D]? = some (.deferred (some [])) := HKD.out
    have u1 : Turn (fun k => k = D) V (V.putObj D (.deferred none)) := Turn.putObj _ D _ rfl
    refine ⟨by simp, .inl ⟨_, _, rfl, run_takeDeferred k1, ?_⟩⟩
    refine ⟨.int .i64 (bytes16 d.l), ?_, ?_⟩
    · simp [results, Try.f13, go_sem]
    · refine ⟨rfl, (HTW5.out.trans HTV.out (fun k hk e => by have := HQ.out; omega)).trans u1 (fun k hk e => ?_)⟩
      have h1 := HTW5.out.size
      have h2 := HDD.out
      omega

theorem fm_keys15 {V U : Type} (f : V → U) (l : List (List UInt8 × V)) : (fm15 f l).map (·.1) = l.map (·.1) := by unfold fm15; rw [List.map_map]; rfl

set_option maxHeartbeats 8000000 in
theorem names_any16 {w : World} {F : Nat → Prop} {g : Nat} {d : C16} (hm : DM16 w F g d) (hbd : BdP16 d) : Calls Try.prog 16 #[.pointer (some ⟨g, 0, none⟩)] w fun e w' => Names16 w (d.l.map (·.1)) e w' := by
  obtain ⟨M, tv, rfl, h, e⟩ := hm
  have HLN : Hid (M.length ≤ 9000) := by have := hbd.len; rw [← e, fm_len15] at this; exact this
  have HKK : Hid ((fm15 PB16.sl M).map (·.1) = d.l.map (·.1)) := by show _ = _; rw [fm_keys15, ← e, fm_keys15]
  obtain ⟨L, hL⟩ : ∃ L, L = d.l.map (·.1) := ⟨_, rfl⟩
  rw [← hL] at HKK ⊢
  have HMP := Lib.hid h.map
  clear e hbd hL h
  obtain ⟨X, hX⟩ : ∃ X, X = fm15 PB16.sl M := ⟨_, rfl⟩
  have hxl : X.length ≤ 9000 := by rw [hX, fm_len15]; exact HLN.out
  rw [← hX] at HMP HKK
  clear hX HLN
  refine (callsIn_wide (n := 5)).1 ?_
  refine callsIn_of_wp_marks Try.func16 rfl trivial ?_ rfl
  simp only [Try.ntmps16, List.size_toArray, List.length_cons, List.length_nil, Nat.reduceAdd, Nat.reduceSub, Array.replicate_succ, Array.replicate_zero, List.push_toArray, List.append_toArray, List.nil_append, List.cons_append]
  refine wpIn_wide.2 ?_
  go_wp2_with fail
  refine (omb.len_any HMP.out).mono ?_
  rintro e w2 ⟨rfl, rfl⟩
  have hmk := made_texts10 X.length (by omega) w
  have HR0 := Lib.hid (own_texts10 X.length (by omega) w)
  go_wp2_with fail
  clear hmk
  obtain ⟨R, hR⟩ : ∃ R : Nat, R = w.heap.size := ⟨_, rfl⟩
  obtain ⟨wb, hwb⟩ : ∃ wb, wb = (w.alloc (.cells (madeCells #[.string ⟨#[]⟩] X.length) 9)).alloc (.cells #[.slice (some ⟨R, 0, none⟩) 0 X.length] 42) := ⟨_, rfl⟩
  have HTB : Hid (Turn (fun _ => False) w wb) := by rw [hwb]; exact ((Turn.refl _ w).alloc _).alloc _
  have HBX : Hid (Box wb (R + 1) 42 #[.slice (some ⟨R, 0, none⟩) 0 X.length]) := by
    rw [hwb, hR]
    have h := Box.new (w.alloc (.cells (madeCells #[.string ⟨#[]⟩] X.length) 9)) 42 #[.slice (some ⟨w.heap.size, 0, none⟩) 0 X.length]
    rw [World.size_alloc] at h
    exact h
  have HRO : Hid (OwE ET10 9 wb (.slice (some ⟨R, 0, none⟩) 0 X.length) []) := by
    rw [hwb, hR]
    exact HR0.out.turn ((Turn.refl (fun _ => False) _).alloc _) (fun _ _ f => f)
  have HRW := Lib.hid hR
  rw [← hR]
  rw [← hwb]
  clear hwb hR HR0
  refine (omb.all_any (HMP.out.later HTB.out)).mono ?_
  rintro e w5 ⟨q1, q2, rfl, hr⟩
  have HRA := Lib.hid hr
  have HB5 := Lib.hid (HBX.out.turn hr.turn (fun f => f))
  have HO5 := Lib.hid (HRO.out.later hr.turn)
  have HT5 : Hid (Turn (fun _ => False) w w5) := HTB.out.trans hr.turn (fun _ _ f => f)
  obtain ⟨A5, x5, hq1, hq2, -, -⟩ := hr.out
  have hz := HBX.out.lt
  have HQ : Hid (R + 1 < q1 ∧ R + 1 < q2 ∧ q1 < w5.heap.size ∧ q2 < w5.heap.size ∧ R + 1 < w5.heap.size) := ⟨by have := hr.new1; omega, by have := hr.new2; omega, hq1.lt, hq2.lt, HB5.out.lt⟩
  clear hr hq1 hq2 hz
  unfold omb.RisV
  go_wp2_with fail
  refine (wpIn_wide (n := 5)).1 ?_
  refine' over2 (n := 5) (by omega) (gf := 45) (lb := #[.pointer (some ⟨q1, 0, none⟩), .pointer (some ⟨q2, 0, none⟩)]) rfl (enters_of Try.func45 (by kernel_rfl) rfl)
    (omb.all_feeds 4 HRA.out (fun k => k = R ∨ k = R + 1 ∨ k = w5.heap.size + 1) (by have := HQ.out; omega) (by have := HQ.out; omega) ⟨fun g cs hb e => by
      rcases e with e | e | e
      · exact box_not_own hb HO5.out rfl (by decide) e
      · exact box_ne10 hb HB5.out (by decide) e
      · have := hb.lt; omega⟩) (Turn.refl _ _) (Or.inr (Or.inr rfl)) (fun k e => by have := HQ.out; omega) (fun pre => fun _ _ _ h _ => h) (fun _ => rfl)
    (fun (pre : List ((List UInt8) × SlB)) V => Box V (R + 1) 42 #[.slice (some ⟨R, 0, none⟩) pre.length X.length] ∧ OwE ET10 9 V (.slice (some ⟨R, 0, none⟩) pre.length X.length) (pre.map (·.1)) ∧ Turn (fun k => k = R ∨ k = R + 1) w5 V)
    (fun _ _ _ => False) (Holds.and (holds_box _ _ _ (fun (pre : List ((List UInt8) × SlB)) => #[.slice (some ⟨R, 0, none⟩) pre.length X.length])) (Holds.and (holds_own _ (fun (pre : List ((List UInt8) × SlB)) => .slice (some ⟨R, 0, none⟩) pre.length X.length) (fun pre => pre.map (·.1))) (holds_turn (fun k h1 h2 => by omega)))) (fun _ _ _ _ h _ => h) ⟨HB5.out, HO5.out, Turn.refl _ _⟩ _ ?assign ?body ?done ?stop
  case assign =>
    intro l0 x W K hK
    have HK := Lib.hid hK; clear hK
    gi_wp2
    exact HK.out
  case stop =>
    rintro D c0 pre V _ _ h _
    exact h.elim
  case body =>
    rintro l0 pre y V ⟨hb, ho, ht⟩ hgv
    obtain ⟨k, n⟩ := y
    dsimp only
    have cB := hb.cell 0
    have fB := hb.free 0
    have hpl := (pre_at10 hgv).2
    have HB := Lib.hid hb; have HO := Lib.hid ho; have HTV := Lib.hid ht
    clear hb ho ht hgv
    have hpn : (pre.map (·.1)).length = pre.length := List.length_map _
    have HN1 := Lib.hid (HO.out.later ((Turn.refl (fun _ => False) V).alloc (.cells #[(sv10 k)] 9)))
    have HSR := Lib.hid ((one_row ET10 9 V k).src Try.underlying42)
    gi_wp2_with (gi_at_builtin; refine wpListIn_room Try.underlying42 str_info10 _ rfl _ _ rfl R pre.length X.length _ rfl HN1.out _ rfl [k] HSR.out (by rw [hpn]; simp only [List.length_cons, List.length_nil]; omega) ?_; intro w6 ho6 ht6; have HO6 := Lib.hid ho6; have HT6 := Lib.hid ht6; have b6 := (HB.out.turn ((Turn.refl (fun _ => False) V).alloc (.cells #[(sv10 k)] 9)) (fun f => f)).turn ht6 (by omega); have c6 := b6.cell 0; have f6 := b6.free 0; have HB6 := Lib.hid b6; clear ho6 ht6 b6)
    have e9 : (pre ++ [(k, n)] : List ((List UInt8) × SlB)).length = pre.length + 1 := by rw [List.length_append]; rfl
    have HT16 : Hid (Turn (fun k => k = R ∨ k = R + 1) V w6) := ((Turn.refl (fun k => k = R ∨ k = R + 1) V).alloc (.cells #[(sv10 k)] 9)).trans HT6.out (fun _ _ e => .inl e)
    refine ⟨?_, ?_, ?_⟩
    · exact (Still.turned ((Turn.refl (fun _ => False) V).alloc (.cells #[(sv10 k)] 9))).trans ((own_still HT6.out (own_cells HN1.out rfl)).trans (Still.setCell _ _ _))
    · exact (HT16.out.mono (fun _ _ e => e.imp id .inl)).setCell (p := ⟨R + 1, 0, none⟩) (fun _ => .inr (.inl rfl)) _
    · refine ⟨?_, ?_, ?_⟩
      · rw [e9]
        exact HB6.out.set 0 (.slice (some ⟨R, 0, none⟩) (pre.length + 1) X.length)
      · rw [e9, List.map_append]
        have h := HO6.out.turn ((Turn.refl (fun k => k = R + 1) w6).setCell (p := ⟨R + 1, 0, none⟩) (fun _ => rfl) (.slice (some ⟨R, 0, none⟩) (pre.length + 1) X.length)) (fun k hk e => by simp only [Value.ownBlock, Option.some.injEq] at hk; omega)
        rw [hpn] at h
        exact h
      · exact (HTV.out.trans HT16.out (fun _ _ e => e)).setCell (p := ⟨R + 1, 0, none⟩) (fun _ => .inr rfl) _
  case done =>
    rintro D xs V hD hA ⟨hb, ho, ht⟩ hK
    subst hA
    have hrd := ho.rd
    rw [HKK.out] at hrd
    have cB := hb.cell 0
    have hbr : ∃ cs, Box V R 9 cs := by
      rcases ho.form with ⟨e1, _⟩ | ⟨g', cap, cur, e1, hb', _⟩
      · cases e1
      · have e2 := congrArg Value.ownBlock e1
        simp only [Value.ownBlock, Option.some.injEq] at e2
        subst e2
        exact ⟨_, hb'⟩
    have HBR := Lib.hid hbr
    have HR := Lib.hid hrd; have HTV := Lib.hid ht; have HKD := Lib.hid hK; have HDD := Lib.hid hD
    clear hb ho ht hK hD hrd hbr
    go_wp2
    have k1 : V.heap[D]? = some (.deferred (some [])) := HKD.out
    have u1 : Turn (fun k => k = D) V (V.putObj D (.deferred none)) := Turn.putObj _ D _ rfl
    refine ⟨by simp, .inl ⟨_, _, rfl, run_takeDeferred k1, ?_⟩⟩
    refine ⟨.slice (some ⟨R, 0, none⟩) xs.length xs.length, ?_, ?_⟩
    · simp [results, Try.f16, go_sem]
    · refine ⟨_, rfl, HR.out.turn u1 (fun b hb e => ?_), (HT5.out.trans HTV.out (fun k hk e => by have := HRW.out; omega)).trans u1 (fun k hk e => ?_)⟩
      · simp only [Value.ownBlock, Option.some.injEq] at hb
        obtain ⟨cs, hc⟩ := HBR.out
        have hRD : R = D := hb.trans e
        rw [← hRD, show V.heap[R]? = _ from hc] at k1
        cases k1
      · have h1 := HT5.out.size
        have h2 := HDD.out
        omega

end Go.Proofs.Ytamcgoamkakpkaa
