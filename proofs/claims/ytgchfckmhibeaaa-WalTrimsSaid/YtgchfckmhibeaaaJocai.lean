/-
  Texts laid one behind the other: Zn Es R1d Eh Zh Zi R1e R1h.
-/
import Derived.Test.YtgchfckmhibeaaaJocah
import Derived.Test.YtgchfckmhibeaaaJocae
import Derived.Laws.OwnMore
import Derived.Test.YtgchfckmhibeaaaJocag
import Derived.Laws.ResultCell
import Derived.Laws.Slices
import Derived.Test.YtgchfckmhibeaaaJocaf

/-
  Stage 9: lists of numbers held against each other; what light facts are.
-/
namespace Go.Proofs.Ytgchfckmhibeaaa
open Go.RowKit

set_option maxRecDepth 100000

theorem light_len9 {l : List F9} (h : light9 l = true) : l.length ≤ 100 := by
  unfold light9 at h
  rw [Bool.and_eq_true, decide_eq_true_iff] at h
  exact h.1

theorem readB_len {m : List UInt8} {n : Int} : (readB m n).2.length ≤ 1000 := by
  by_cases h : (readB m n).1 = 0
  · have e : readB m n = (0, (readB m n).2) := by rw [← h]
    obtain ⟨_, h2⟩ := readB_there e
    have := (all_good h2).2.1
    omega
  · rw [readB_none h]
    exact Nat.zero_le _
theorem batch_len9 {l : List F9} {n : Int} (h : (allB l n).1 = 0) : (batchB l n.toNat).length ≤ 100000 := by
  obtain ⟨h1, h2, h3, _⟩ := all_good h
  have h4 := partB_len (l := l) (n := n.toNat) (by omega) (fun f hf => good_chk (h3 f hf)) l.length
  rw [partB_all] at h4
  omega

end Go.Proofs.Ytgchfckmhibeaaa

/-
  A struct stored whole into a box, in a region that draws. No type is named here.
-/
namespace Go.Proofs.Ytgchfckmhibeaaa
open Go.RowKit

theorem put_box {P : Program} {ops : Array Oper} {ty rt : TypeId} {pos : String} {af : Array Edge} {px vx : Operand} {a : Act} {w : World} {K : Act → World → Prop} {Q : Exit → Act → World → Prop} {F : Prop}
    (b o : Nat) (cs : Array Value) (ht : w.there b o cs.size) (hp : a.eval px = .pointer (some ⟨b, o, none⟩)) (hv : a.eval vx = .agg cs) (hi : (P.info? ty).map (·.size) = some cs.size) (h1 : cs.all (·.oneCell') = true)
    (h : K a (w.setCells b o cs.toList)) :
    if Region.wanted { dst := none, op := .store ty px vx, type := rt, pos := pos, after := af, guard := none } (yielded ops a.tmps) = true then Oper.wp P { dst := none, op := .store ty px vx, type := rt, pos := pos, after := af, guard := none } a w K Q else F := by
  rw [if_pos (by rfl)]
  exact wp_store_mid ty px vx rfl b o cs hp hv ht hi h1 h
/-- A box, whole: there to be stored into. -/
theorem Box.there {w : World} {g : Nat} {t : TypeId} {cs : Array Value} (h : Box w g t cs) {n : Nat} (hn : n ≤ cs.size) : w.there g 0 n := fun i hi => by
  refine ⟨?_, h.free _⟩
  rw [h.cell, Nat.zero_add, Array.getElem?_eq_getElem (by omega)]
  rfl
/-- A box stored whole. -/
theorem Box.all {w : World} {g : Nat} {t : TypeId} {cs : Array Value} (h : Box w g t cs) (ds : Array Value) (hd : ds.size = cs.size) : Box (w.setCells g 0 ds.toList) g t ds := by
  have h1 := h.setCells ds.toList 0 cs w (by rw [Array.length_toList]; omega)
  have e : (cs.toList.take 0 ++ ds.toList ++ cs.toList.drop (0 + ds.toList.length)).toArray = ds := by
    rw [List.take_zero, List.nil_append, Nat.zero_add, List.drop_of_length_le (by rw [Array.length_toList, Array.length_toList]; omega), List.append_nil, Array.toArray_toList]
  rwa [e] at h1

section
variable {T : Type} {E : El T} {e : TypeId} {w : World} {ad : Addr} {n c : Nat} {L : List T}
/-- One element stored into a row, in a region that draws nothing. -/
theorem wpList_put {P : Program} {ops : Array Oper} {rest : List Oper} {op : Oper} {a : Act} {Q : Exit → Act → World → Prop} (hgd : op.guard = none) (ty : TypeId) (x y : Operand) (ho : op.op = .store ty x y)
    (hown : OwE E e w (.slice (some ad) n c) L) (j : Nat) (t : T) (hj : j < L.length) (hx : a.eval x = .pointer (some (ad.add (j * E.sz)))) (hy : a.eval y = .agg (E.enc t).toArray) (hi : (P.info? ty).map (·.size) = some E.sz)
    (h : ∀ w', OwE E e w' (.slice (some ad) n c) (L.set j t) → Turn (fun k => k = ad.block) w w' → wpList P ops Q rest (a.put op.dst undef) w') : wpList P ops Q (op :: rest) a w := by
  obtain ⟨cur, ha, -⟩ := hown.home
  have hadd : ad.add (j * E.sz) = ⟨ad.block, ad.off + j * E.sz, none⟩ := by
    obtain ⟨b, o, s⟩ := ad
    simp only [Addr.mk.injEq, true_and] at ha
    obtain ⟨rfl, rfl⟩ := ha
    rw [own_add, Nat.zero_add]
  refine wpList_store_mid hgd ty x y ho ad.block (ad.off + j * E.sz) (E.enc t).toArray (by rw [hx, hadd]) hy (by rw [List.size_toArray, E.len]; exact hown.there hj) (by rw [List.size_toArray, E.len]; exact hi) (all_oneCell_toArray (E.one t)) ?_
  exact h _ (hown.put hj t) (turn_setCells (S := fun k => k = ad.block) rfl _ _ _)
/-- The cells that make lays: so many zeros. -/
theorem made_flat (t : T) (h0 : 0 < E.sz) (N : Nat) : (madeCells (E.enc t).toArray (N * E.sz)).toList = E.flat (List.replicate N t) := by
  refine List.ext_getElem? fun j => ?_
  have hfl : (E.flat (List.replicate N t)).length = N * E.sz := by rw [E.flat_len, List.length_replicate]
  by_cases hj : j < N * E.sz
  · have hm : j % E.sz < E.sz := Nat.mod_lt _ h0
    have hd : j / E.sz < N := Nat.div_lt_of_lt_mul (by rw [Nat.mul_comm]; exact hj)
    have e := E.flat_at (l := List.replicate N t) (j := j / E.sz) (t := t) (by rw [List.getElem?_replicate, if_pos hd]) hm
    rw [Nat.mul_comm, Nat.div_add_mod] at e
    rw [e]
    have hmz : j % E.sz < (E.enc t).length := by rw [E.len]; exact hm
    simp [madeCells, hj, E.len]
    rw [List.getElem?_eq_getElem hmz]
    rfl
  · rw [List.getElem?_eq_none (by rw [Array.length_toList, size_madeCells]; omega), List.getElem?_eq_none (by omega)]
end

end Go.Proofs.Ytgchfckmhibeaaa

/-
  Stage 17: the document's Parse.
-/
namespace Go.Proofs.Ytgchfckmhibeaaa
open Go.RowKit

set_option maxRecDepth 100000

/-- Behind Parse: a batch, and where its facts lie. -/
def Parsed17 (w : World) (p : List UInt8) (n : Int) (e : Ending) (w' : World) : Prop :=
  ∃ b : B17, e = .returned (.tuple #[bv17 b, .int .i64 (parse17 p n).2]) ∧ b.p = (parse17 p n).1 ∧ RdE EF w' b.sl b.f ∧ Turn (fun _ => False) w w' ∧ ∀ k, b.sl.ownBlock = some k → w.heap.size ≤ k
abbrev zb17 : B17 := ⟨0, 0, 0, none, 0, []⟩
theorem parsed_none17 {w w' : World} {p : List UInt8} {n c : Int} (h : parse17 p n = (⟨0, 0, 0, []⟩, c)) (ht : Turn (fun _ => False) w w') :
    Parsed17 w p n (.returned (.tuple #[.agg #[.int .i64 0, .int .i64 0, .int .i64 0, .slice none 0 0], .int .i64 c])) w' :=
  ⟨zb17, by rw [h]; rfl, by rw [h]; rfl, RdE.nil _, ht, fun k hk => by cases hk⟩
theorem box_bat17 {W : World} {g : Nat} {t : TypeId} {b : B17} (h : Box W g t (bcells17 b)) :
    W.cell? ⟨g, 0, none⟩ = some (.int .i64 b.seq) ∧ W.cell? ⟨g, 1, none⟩ = some (.int .i64 b.tick) ∧ W.cell? ⟨g, 2, none⟩ = some (.int .i64 b.bud) ∧ W.cell? ⟨g, 3, none⟩ = some b.sl :=
  ⟨h.cell 0, h.cell 1, h.cell 2, h.cell 3⟩
theorem one_bat17 (b : B17) : (bcells17 b).all (·.oneCell') = true := by
  refine all_oneCell_toArray (fun u hu => ?_)
  simp only [List.mem_cons, List.not_mem_nil, or_false] at hu
  rcases hu with rfl | rfl | rfl | rfl <;> rfl

theorem num_bad17 {s : RS9} (h : s.2 ≠ 0) : sNum' s = s := by unfold sNum'; rw [if_neg h]
theorem one_bad17 : (sNum' ([], 0)).2 ≠ 0 := by
  have e : rdNum [] = (0, 3, 0) := rfl
  unfold sNum'
  rw [if_pos rfl]
  show (rdNum []).2.1 ≠ 0
  rw [e]
  decide
theorem three_bad17 (h : (sNum' (sNum' (sNum' ([], 0)))).2 = 0) : False := by
  have h1 := one_bad17
  rw [num_bad17 (s := sNum' ([], 0)) h1, num_bad17 h1] at h
  exact h1 h
/-- A batch stored whole into the box of the result. -/
theorem bat_set17 {w W : World} {r : Nat} {t : TypeId} {b : B17} (hb : Box W r t (bcells17 b)) (ht : Turn (fun _ => False) w W) (hr : w.heap.size ≤ r) (c : B17) :
    Box (W.setCells r 0 (bcells17 c).toList) r t (bcells17 c) ∧ Turn (fun _ => False) w (W.setCells r 0 (bcells17 c).toList) ∧ Turn (fun g => g = r) W (W.setCells r 0 (bcells17 c).toList) := by
  have h1 : Turn (fun g => g = r) W (W.setCells r 0 (bcells17 c).toList) := turn_setCells (S := fun g => g = r) rfl _ _ _
  exact ⟨hb.all _ rfl, ht.trans h1 (fun k hk e => by omega), h1⟩

set_option maxHeartbeats 4000000 in
theorem ref_parse17 (u : Value) (p : List UInt8) (n : Int) (w : World) (hv : Rd w u p) (hB : ∀ g, u.ownBlock = some g → g < w.heap.size) : Calls Try.prog 30 #[u, .int .i64 n] w fun e w' => Parsed17 w p n e w' := by
  obtain ⟨A, c, rfl⟩ := hv.shape
  by_cases hn : 1 ≤ n ∧ n ≤ 4
  · obtain ⟨n1, n4⟩ := hn
    obtain ⟨N, rfl⟩ := Int.eq_ofNat_of_zero_le (show 0 ≤ n by omega)
    have HTW : Hid (Turn (fun _ => False) w (w.alloc (.cells #[.int .i64 0, .int .i64 0, .int .i64 0, .slice none 0 0] 52))) := (Turn.refl _ w).alloc _
    have HBX := Lib.hid (Box.new w 52 (bcells17 ⟨0, 0, 0, none, 0, []⟩))
    obtain ⟨B, hBl, hx⟩ := XS.new (hv.later HTW.out) (fun g hg => Nat.lt_of_lt_of_le (hB g hg) HTW.out.size)
    obtain ⟨wb, hwb⟩ : ∃ wb, wb = w.alloc (.cells #[.int .i64 0, .int .i64 0, .int .i64 0, .slice none 0 0] 52) := ⟨_, rfl⟩
    have hsz : wb.heap.size = w.heap.size + 1 := by rw [hwb]; exact Array.size_push _
    rw [← hwb] at hx hBl HTW
    have HBX : Hid (Box wb w.heap.size 52 (bcells17 zb17)) := by rw [hwb]; exact HBX.out
    rw [hsz] at hx hBl
    have HWB := Lib.hid hwb
    have HSZ := Lib.hid hsz
    clear hwb hsz
    have hok : okDims (N : Int) = true := by unfold okDims; simp [n1, n4]
    have HX := Lib.hid hx
    have HBL := Lib.hid hBl
    have HSPEC : Hid (parse17 p (N : Int) = (if (sNum' (sNum' (sNum' (p, 0)))).2 ≠ 0 then (⟨0, 0, 0, []⟩, ((sNum' (sNum' (sNum' (p, 0)))).2 : Int))
        else if numsR17 (sNum (p, 0)) (sNum (sNum' (p, 0))) (sNum (sNum' (sNum' (p, 0)))) = false then (⟨0, 0, 0, []⟩, 4)
        else if (readB (sNum' (sNum' (sNum' (p, 0)))).1 (N : Int)).1 ≠ 0 then (⟨0, 0, 0, []⟩, (readB (sNum' (sNum' (sNum' (p, 0)))).1 (N : Int)).1)
        else (⟨sNum (p, 0), sNum (sNum' (p, 0)), sNum (sNum' (sNum' (p, 0))), (readB (sNum' (sNum' (sNum' (p, 0)))).1 (N : Int)).2⟩, 0))) := by
      show _ = _
      unfold parse17
      rw [if_pos hok]
    have HNE : Hid ((sNum' (sNum' (sNum' (p, 0)))).2 = 0 → p ≠ []) := fun h e => by rw [e] at h; exact three_bad17 h
    clear hx hBl hB hv hok
    go_enter Try.func30, Try.ntmps30
    go_wp2_with fail
    rw [← HWB.out]
    refine (xs_num HX.out).mono ?_
    rintro e w2 ⟨rfl, h2, t2⟩
    generalize sNum (p, 0) = s at *
    generalize sNum' (p, 0) = s1 at *
    have H2 := Lib.hid h2
    have HT2 : Hid (Turn (fun _ => False) wb w2) := ((Turn.refl _ wb).alloc _).trans t2 (fun k hk e => by have := HSZ.out; omega)
    clear h2 t2
    go_wp2_with fail
    refine (xs_num H2.out).mono ?_
    rintro e w3 ⟨rfl, h3, t3⟩
    generalize sNum s1 = t at *
    generalize sNum' s1 = s2 at *
    have H3 := Lib.hid h3
    have HT3 : Hid (Turn (fun _ => False) wb w3) := HT2.out.trans t3 (fun k hk e => by have := HSZ.out; omega)
    clear h3 t3
    go_wp2_with fail
    refine (xs_num H3.out).mono ?_
    rintro e w4 ⟨rfl, h4, t4⟩
    generalize sNum s2 = v at *
    generalize sNum' s2 = s3 at *
    have H4 := Lib.hid h4
    have HT4 : Hid (Turn (fun _ => False) wb w4) := HT3.out.trans t4 (fun k hk e => by have := HSZ.out; omega)
    clear h4 t4
    have HBX4 : Hid (Box w4 w.heap.size 52 (bcells17 zb17)) := HBX.out.turn HT4.out (fun f => f)
    have HTF : Hid (Turn (fun _ => False) w w4) := HTW.out.trans HT4.out (fun _ _ f => f)
    have e1 := H4.out.fault
    obtain ⟨AL, cL, hb4, hr4, hg4, -, -⟩ := H4.out
    have e0 := hb4.cell 0
    have HR4 := Lib.hid hr4
    have HG4 := Lib.hid hg4
    have HRL : Hid (w.heap.size < w4.heap.size) := HBX4.out.lt
    clear hb4 hr4 hg4 HX H2 H3 HT2 HT3 HT4 HBX HTW
    by_cases hf : s3.2 = 0
    · rw [hf] at e1
      by_cases hnr : numsR17 s t v = true
      · obtain ⟨a1, b1, c1, ea, eb, ec, hq, -, -⟩ := nums_of17 hnr
        obtain rfl : s = a1 := by omega
        obtain rfl : t = b1 := by omega
        obtain rfl : v = c1 := by omega
        have hin : (1 : Int) ≤ s ∧ (s : Int) ≤ 4611686018427387904 ∧ (t : Int) ≤ 1006633020 ∧ (v : Int) ≤ 4611686018427387904 := by
          unfold numsR17 in17 at hnr
          simp only [Bool.and_eq_true, decide_eq_true_iff] at hnr
          omega
        have k1 : ¬ (s : Int) < 1 := by omega
        have k2 : ¬ 4611686018427387904 < (s : Int) := by omega
        have k3 : ¬ 1006633020 < (t : Int) := by omega
        have k4 : ¬ 4611686018427387904 < (v : Int) := by omega
        have HW1 : Hid (IntKind.i64.wrap (s : Int) = (s : Int)) := IntWalk.i64_in _ (by omega)
        have HW2 : Hid (IntKind.i64.wrap (t : Int) = (t : Int)) := IntWalk.i64_in _ (by omega)
        have HW3 : Hid (IntKind.i64.wrap (v : Int) = (v : Int)) := IntWalk.i64_in _ (by omega)
        have HSP2 : Hid (parse17 p (N : Int) = (if (readB s3.1 (N : Int)).1 ≠ 0 then (⟨0, 0, 0, []⟩, (readB s3.1 (N : Int)).1) else (⟨s, t, v, (readB s3.1 (N : Int)).2⟩, 0))) := by
          show _ = _
          rw [HSPEC.out, if_neg (by simp [hf]), if_neg (by rw [hnr]; decide)]
        have HPN : Hid (p ≠ []) := HNE.out hf
        clear hnr hf HSPEC hq ea eb ec hin
        have hrd := ref_readN9 _ s3.1 (N : Int) w4 HR4.out (fun g hg => by have := HG4.out.1 g hg; have := HBL.out HPN.out; have := HRL.out; omega)
        unfold ReadedN at hrd
        have HRD := Lib.hid hrd
        clear hrd
        generalize readB s3.1 (N : Int) = rb at *
        obtain ⟨ra, rl⟩ := rb
        dsimp only at HRD HSP2
        go_wp2_with fail
        refine HRD.out.mono ?_
        rintro e w5 ⟨v5, rfl, r5, t5, n5⟩
        have HR5 := Lib.hid r5
        have HN5 : Hid (∀ k, v5.ownBlock = some k → w.heap.size < k) := fun k hk => by have := n5 k hk; have := HRL.out; omega
        have HBX5 : Hid (Box w5 w.heap.size 52 (bcells17 zb17)) := HBX4.out.turn t5 (fun f => f)
        have HTF5 := Lib.hid (HTF.out.trans t5 (fun _ _ f => f))
        obtain ⟨A5, c5, rfl⟩ := r5.shape
        clear r5 t5 n5 HRD HBX4 HTF HRL e0 e1 H4
        obtain ⟨d0, d1, d2, d3⟩ := box_bat17 HBX5.out
        have z0 := HBX5.out.free 0; have z1 := HBX5.out.free 1; have z2 := HBX5.out.free 2; have z3 := HBX5.out.free 3
        by_cases hra : ra = 0
        · subst hra
          have HND : Hid (parse17 p (N : Int) = (⟨s, t, v, rl⟩, 0)) := HSP2.out.trans (if_neg (by simp))
          have HST := Lib.hid (bat_set17 HBX5.out HTF5.out (Nat.le_refl _) ⟨s, t, v, A5, c5, rl⟩)
          have HRT := Lib.hid (HR5.out.turn HST.out.2.2 (fun k hk e => by have := HN5.out k hk; omega))
          have hw1 := HW1.out; have hw2 := HW2.out; have hw3 := HW3.out
          clear HSP2 k1 k2 k3 k4
          go_wp2_with fail
          refine bodyPost_ret (v := .tuple #[.agg #[.int .i64 s, .int .i64 t, .int .i64 v, .slice A5 rl.length c5], .int .i64 0]) ?_ rfl ⟨⟨s, t, v, A5, c5, rl⟩, by rw [HND.out], by rw [HND.out]; rfl, HRT.out, HST.out.2.1, fun k hk => Nat.le_of_lt (HN5.out k hk)⟩
          rw [results_cell_tmp rfl]
          go_simp
        · have HND : Hid (parse17 p (N : Int) = (⟨0, 0, 0, []⟩, ra)) := HSP2.out.trans (if_pos hra)
          have HST := Lib.hid (bat_set17 HBX5.out HTF5.out (Nat.le_refl _) zb17)
          have hne : (ra == 0) = false := by rw [beq_eq_false_iff_ne]; exact hra
          clear hra HSP2 k1 k2 k3 k4
          go_wp2_with fail
          refine bodyPost_ret (v := .tuple #[.agg #[.int .i64 0, .int .i64 0, .int .i64 0, .slice none 0 0], .int .i64 ra]) ?_ rfl (parsed_none17 HND.out HST.out.2.1)
          rw [results_cell_tmp rfl]
          go_simp
      · have HND : Hid (parse17 p (N : Int) = (⟨0, 0, 0, []⟩, 4)) := by
          show _ = _
          rw [HSPEC.out, if_neg (by simp [hf]), if_pos (by simpa using hnr)]
        have hcs : (s : Int) < 1 ∨ 4611686018427387904 < (s : Int) ∨ 1006633020 < (t : Int) ∨ 4611686018427387904 < (v : Int) := by
          unfold numsR17 in17 at hnr
          simp only [Bool.and_eq_true, decide_eq_true_iff] at hnr
          omega
        clear hnr hf HSPEC
        have HST := Lib.hid (bat_set17 HBX4.out HTF.out (Nat.le_refl _) zb17)
        have hcs := Lib.hid hcs
        by_cases k1 : (s : Int) < 1
        · clear hcs
          obtain ⟨d0, d1, d2, d3⟩ := box_bat17 HBX4.out
          have z0 := HBX4.out.free 0; have z1 := HBX4.out.free 1; have z2 := HBX4.out.free 2; have z3 := HBX4.out.free 3
          go_wp2_with fail
          refine bodyPost_ret (v := .tuple #[.agg #[.int .i64 0, .int .i64 0, .int .i64 0, .slice none 0 0], .int .i64 4]) ?_ rfl (parsed_none17 HND.out HST.out.2.1)
          rw [results_cell_tmp rfl]
          go_simp
        · by_cases k2 : 4611686018427387904 < (s : Int)
          · clear hcs
            obtain ⟨d0, d1, d2, d3⟩ := box_bat17 HBX4.out
            have z0 := HBX4.out.free 0; have z1 := HBX4.out.free 1; have z2 := HBX4.out.free 2; have z3 := HBX4.out.free 3
            go_wp2_with fail
            refine bodyPost_ret (v := .tuple #[.agg #[.int .i64 0, .int .i64 0, .int .i64 0, .slice none 0 0], .int .i64 4]) ?_ rfl (parsed_none17 HND.out HST.out.2.1)
            rw [results_cell_tmp rfl]
            go_simp
          · by_cases k3 : 1006633020 < (t : Int)
            · clear hcs
              obtain ⟨d0, d1, d2, d3⟩ := box_bat17 HBX4.out
              have z0 := HBX4.out.free 0; have z1 := HBX4.out.free 1; have z2 := HBX4.out.free 2; have z3 := HBX4.out.free 3
              go_wp2_with fail
              refine bodyPost_ret (v := .tuple #[.agg #[.int .i64 0, .int .i64 0, .int .i64 0, .slice none 0 0], .int .i64 4]) ?_ rfl (parsed_none17 HND.out HST.out.2.1)
              rw [results_cell_tmp rfl]
              go_simp
            · have k4 : 4611686018427387904 < (v : Int) := by have := hcs.out; omega
              clear hcs
              obtain ⟨d0, d1, d2, d3⟩ := box_bat17 HBX4.out
              have z0 := HBX4.out.free 0; have z1 := HBX4.out.free 1; have z2 := HBX4.out.free 2; have z3 := HBX4.out.free 3
              go_wp2_with fail
              refine bodyPost_ret (v := .tuple #[.agg #[.int .i64 0, .int .i64 0, .int .i64 0, .slice none 0 0], .int .i64 4]) ?_ rfl (parsed_none17 HND.out HST.out.2.1)
              rw [results_cell_tmp rfl]
              go_simp
    · have HND : Hid (parse17 p (N : Int) = (⟨0, 0, 0, []⟩, (s3.2 : Int))) := by
        show _ = _
        rw [HSPEC.out, if_pos hf]
      have hf2 : ((s3.2 : Int) == 0) = false := by rw [beq_eq_false_iff_ne]; omega
      obtain ⟨r, hr⟩ : ∃ r, r = w.heap.size := ⟨_, rfl⟩
      obtain ⟨q, hq⟩ : ∃ q, q = w.heap.size + 1 := ⟨_, rfl⟩
      have HBX5 : Hid (Box (World.drew w4) r 52 (bcells17 zb17)) := by rw [hr]; exact HBX4.out.turn (Turn.refl (fun _ => False) w4).drew (fun f => f)
      have HTF5 : Hid (Turn (fun _ => False) w (World.drew w4)) := HTF.out.drew
      have HSI : Hid ((Try.prog.info? 52).map (·.size) = some 4) := by show _ = _; kernel_rfl
      have HON := Lib.hid (one_bat17 zb17)
      have HLE : Hid (w.heap.size ≤ r) := by show _ ≤ _; omega
      have hrq : r ≠ q := by omega
      rw [← hq] at e1 e0
      rw [← hq, ← hr]
      clear hf HSPEC hr hq e0 HBX4 HTF H4 HRL HSZ HNE HBL
      go_wp2_with fail
      have hS0 : (World.drew w4).cell? ⟨q, 1, none⟩ = some (.int .i64 (s3.2 : Int)) ∧ True := ⟨e1, trivial⟩
      refine drawn_region (fun W => W.cell? ⟨q, 1, none⟩ = some (.int .i64 (s3.2 : Int)) ∧ True) [] (by kernel_rfl) ?_
      generalize World.drew w4 = wd at *
      refine drawn_take 0 33 (.agg #[.int .i64 0, .int .i64 0, .int .i64 0, .slice none 0 0]) rfl rfl (by kernel_rfl) (by kernel_rfl) (by kernel_rfl) (by kernel_rfl) (fun _ _ _ h => h) (by rfl) (by assumption) (by intro w hSw; obtain ⟨b0, -⟩ := hSw; go_simp) ?_
      try simp only [List.setIfInBounds_toArray, List.set_cons_zero, List.set_cons_succ]
      refine drawn_take 1 34 (.pointer (some ⟨q, 0, none⟩)) rfl rfl (by kernel_rfl) (by kernel_rfl) (by kernel_rfl) (by kernel_rfl) (fun _ _ _ h => h) (by rfl) (by assumption) (by intro w hSw; obtain ⟨b0, -⟩ := hSw; go_simp) ?_
      try simp only [List.setIfInBounds_toArray, List.set_cons_zero, List.set_cons_succ]
      refine drawn_take 2 35 (.pointer (some ⟨q, 0, none⟩)) rfl rfl (by kernel_rfl) (by kernel_rfl) (by kernel_rfl) (by kernel_rfl) (fun _ _ _ h => h) (by rfl) (by assumption) (by intro w hSw; obtain ⟨b0, -⟩ := hSw; go_simp) ?_
      try simp only [List.setIfInBounds_toArray, List.set_cons_zero, List.set_cons_succ]
      refine drawn_take 3 36 (.pointer (some ⟨q, 1, none⟩)) rfl rfl (by kernel_rfl) (by kernel_rfl) (by kernel_rfl) (by kernel_rfl) (fun _ _ _ h => h) (by rfl) (by assumption) (by intro w hSw; obtain ⟨b0, -⟩ := hSw; go_simp) ?_
      try simp only [List.setIfInBounds_toArray, List.set_cons_zero, List.set_cons_succ]
      refine drawn_take 4 37 (.int .i64 (s3.2 : Int)) rfl rfl (by kernel_rfl) (by kernel_rfl) (by kernel_rfl) (by kernel_rfl) (fun _ _ _ h => h) (by rfl) (by assumption) (by intro w hSw; obtain ⟨b0, -⟩ := hSw; go_simp) ?_
      try simp only [List.setIfInBounds_toArray, List.set_cons_zero, List.set_cons_succ]
      obtain ⟨w9, hw9⟩ : ∃ w9, w9 = wd.setCells r 0 (bcells17 zb17).toList := ⟨_, rfl⟩
      have HST := Lib.hid (bat_set17 HBX5.out HTF5.out HLE.out zb17)
      rw [← hw9] at HST
      have hS9 : w9.cell? ⟨q, 1, none⟩ = some (.int .i64 (s3.2 : Int)) ∧ True := by
        have hlt : q < wd.heap.size := by
          rcases Nat.lt_or_ge q wd.heap.size with h | h
          · exact h
          · have e := hS0.1
            unfold World.cell? at e
            rw [Array.getElem?_eq_none h] at e
            cases e
        exact ⟨(HST.out.2.2.cell (p := ⟨q, 1, none⟩) hlt (fun e => hrq e.symm)).trans hS0.1, trivial⟩
      have HTH : Hid (wd.there r 0 4) := HBX5.out.there (Nat.le_refl 4)
      have HW9 := Lib.hid hw9
      clear hw9
      refine drawn_any [5] (by kernel_rfl) (by simp) ?_
      refine drawn_cons rfl (fun K2 hK => ?_) drawn_nil
      refine put_box r 0 (bcells17 zb17) HTH.out rfl rfl HSI.out HON.out ?_
      rw [← HW9.out]
      refine hK.out _ _ _ hS9 ?_
      clear hK K2 hS0
      try simp only [List.setIfInBounds_toArray, List.set_cons_zero, List.set_cons_succ]
      refine drawn_last1 6 5 (.int .i64 (s3.2 : Int)) rfl rfl (by kernel_rfl) (by kernel_rfl) (by rfl) (by intro w; go_simp) hS9 ?_
      try simp only [List.setIfInBounds_toArray, List.set_cons_zero, List.set_cons_succ]
      go_wp2
      refine bodyPost_ret (v := .tuple #[.agg #[.int .i64 0, .int .i64 0, .int .i64 0, .slice none 0 0], .int .i64 (s3.2 : Int)]) ?_ rfl (parsed_none17 HND.out HST.out.2.1)
      rw [results_cell_tmp rfl]
      obtain ⟨b0, b1, b2, b3⟩ := box_bat17 HST.out.1
      go_simp
  · have HE : Hid (parse17 p n = (⟨0, 0, 0, []⟩, 1)) := by
      show _ = _
      unfold parse17
      rw [if_neg (by unfold okDims; simpa using hn)]
    clear hB hv
    by_cases n1 : n < 1
    · clear hn
      go_enter Try.func30, Try.ntmps30
      go_wp2_with fail
      refine bodyPost_ret (v := .tuple #[.agg #[.int .i64 0, .int .i64 0, .int .i64 0, .slice none 0 0], .int .i64 1]) ?_ rfl (parsed_none17 HE.out ((Turn.refl _ w).alloc _))
      rw [results_cell_tmp rfl]
      go_simp
    · have n2 : 4 < n := by omega
      clear hn
      go_enter Try.func30, Try.ntmps30
      go_wp2_with fail
      refine bodyPost_ret (v := .tuple #[.agg #[.int .i64 0, .int .i64 0, .int .i64 0, .slice none 0 0], .int .i64 1]) ?_ rfl (parsed_none17 HE.out ((Turn.refl _ w).alloc _))
      rw [results_cell_tmp rfl]
      go_simp

end Go.Proofs.Ytgchfckmhibeaaa

/-
  In a region that draws its order: 'append(append(append([]T{}, a...), x), b...)', whatever order its parts come in; slices cut at their front and tail. No type is named here.
-/
namespace Go.Proofs.Ytgchfckmhibeaaa
open Go.RowKit

section
variable {P : Program} {T : Type} {E : El T} {tS e : TypeId}
/-- A slice's tail, as it is cut. -/
def tailV (E : El T) (A : Option Addr) (n c i : Nat) : Value := .slice (if c = i then A else A.map (fun a => a.add (i * E.sz))) (n - i) (c - i)
theorem rd_tailV {w : World} {A : Option Addr} {n c i : Nat} {L : List T} (h : RdE E w (.slice A n c) L) (hi : i ≤ n) : RdE E w (tailV E A n c i) (L.drop i) := by
  have hf := h.fits
  unfold tailV
  by_cases hc : c = i
  · rw [if_pos hc]
    have e : L.drop i = [] := List.eq_nil_of_length_eq_zero (by rw [List.length_drop]; omega)
    rw [e, show n - i = 0 by omega, show c - i = 0 by omega]
    cases A with
    | none => exact RdE.nil w
    | some ad => exact RdE.none_left _ (by simp) w 0 (Nat.zero_le _)
  · rw [if_neg hc]
    cases A with
    | none => have := (hf.2.2.2 rfl); omega
    | some ad => exact h.back i hi
theorem run_tailV (ht : P.underlying tS = some (.slice e)) (hz : (P.info? e).map (·.size) = some E.sz) (A : Option Addr) (n c i : Nat) (hi : i ≤ n) (w : World) :
    (Instr.slice tS (.slice A n c) (some (.int .i64 (i : Int))) none none).run P w = .ok (tailV E A n c i) w := by
  obtain ⟨j, hj, hz⟩ := Option.map_eq_some_iff.1 hz
  unfold tailV
  rw [← hz]
  simp [Instr.slice, Instr.sliceBounds, Instr.sliceBound, asIntOf, run_underlying ht, sizeOf, typeInfo, hj]
  intro h
  omega
theorem run_frontV (ht : P.underlying tS = some (.slice e)) (hz : (P.info? e).map (·.size) = some E.sz) (A : Option Addr) (n c i : Nat) (hi : i ≤ c) (w : World) :
    (Instr.slice tS (.slice A n c) none (some (.int .i64 (i : Int))) none).run P w = .ok (.slice A i c) w := by
  obtain ⟨j, hj, hz⟩ := Option.map_eq_some_iff.1 hz
  cases A
  all_goals
    simp [Instr.slice, Instr.sliceBounds, Instr.sliceBound, asIntOf, run_underlying ht, sizeOf, typeInfo, hj, Addr.add]
    intro h
    omega
theorem exec_tail {o : Oper} {a : Act} {xo ko : Operand} {A : Option Addr} {n c i : Nat} (ho : o.op = .slice tS xo (some ko) none none) (hx : a.eval xo = .slice A n c) (hk : a.eval ko = .int .i64 (i : Int)) (ht : P.underlying tS = some (.slice e)) (hz : (P.info? e).map (·.size) = some E.sz) (hi : i ≤ n) (w : World) :
    (execOp a.eval o).run P w = .ok (.value (tailV E A n c i)) w := by
  unfold execOp
  simp [ho, hx, hk, Instr.sliceAt, run_underlying ht, run_tailV (E := E) ht hz A n c i hi w]
theorem exec_front {o : Oper} {a : Act} {xo ko : Operand} {A : Option Addr} {n c i : Nat} (ho : o.op = .slice tS xo none (some ko) none) (hx : a.eval xo = .slice A n c) (hk : a.eval ko = .int .i64 (i : Int)) (ht : P.underlying tS = some (.slice e)) (hz : (P.info? e).map (·.size) = some E.sz) (hi : i ≤ c) (w : World) :
    (execOp a.eval o).run P w = .ok (.value (.slice A i c)) w := by
  unfold execOp
  simp [ho, hx, hk, Instr.sliceAt, run_underlying ht, run_frontV (E := E) ht hz A n c i hi w]
/-- append onto a row of one's own. -/
theorem run_appE {z : Value} {by' : Nat} (ht : P.underlying tS = some (.slice e)) (hi0 : (P.info? e).map (fun i => (i.zero, i.size, i.bytes)) = some (some z, E.sz, by')) (hz : z.cells.size = E.sz) (hby : by' ≤ 1000) (w : World) (ty : TypeId) (v : Value) (l : List T) (hown : OwE E e w v l)
    (y : Value) (m : List T) (hy : RdE E w y m) (hl : l.length + m.length ≤ 3000000) :
    ∃ A n c w', (Builtin.append_ #[tS, tS] ty #[v, y]).run P w = .ok (.slice A n c) w' ∧ OwE E e w' (.slice A n c) (l ++ m) ∧ Turn (fun k => v.ownBlock = some k) w w' ∧ ((Value.slice A n c).ownBlock = v.ownBlock ∨ (Value.slice A n c).ownBlock = some w.heap.size) := by
  obtain ⟨i, hi, hz0, h1, h2⟩ := info_parts hi0
  have hsrc := hy.src (P := P) ht
  unfold OwE at hown
  rw [← h1] at hown hsrc
  obtain ⟨A, n, c, w', hr, g1, g2, g3⟩ := run_app (P := P) w tS tS ty e i z ht hi hz0 (by rw [h1]; exact hz) v l.length _ hown y m.length _ hsrc (by simp only [maxLen]; omega) (by rw [h2]; exact Nat.le_trans (Nat.mul_le_mul hl hby) (by omega))
  refine ⟨A, n, c, w', hr, ?_, (Turn.refl _ w).grown g2 (fun k _ e => e), g3⟩
  unfold OwE
  rw [List.length_append, E.flat_append, ← h1]
  exact g1
end

section
variable {P : Program} {ops : Array Oper} {Q : Exit → Act → World → Prop} {S : World → Prop} {zs : List Nat}
theorem slot_ne {ts : Array Value} {d k : Nat} {v : Value} (h : d ≠ k) : (ts.setIfInBounds d v).getD k undef = ts.getD k undef := by
  simp [Array.getD_eq_getD_getElem?, Array.getElem?_setIfInBounds_ne h]
theorem slot_eq {ts : Array Value} {d : Nat} {v : Value} (h : d < ts.size) : (ts.setIfInBounds d v).getD d undef = v := by
  simp [Array.getD_eq_getD_getElem?, h]
/-- One that yields a value, in some world. -/
theorem drawn_does {fuel : Nat} {listed : Array Bool} {ts : Array Value} {ds : List Deferred} {w : World} {i d : Nat} {o : Oper} {rs : List Nat} (R : Value → World → Prop) (ho : nthL ops.toList i = some o) (hg : o.guard = none) (hd : o.dst = some d)
    (hr : ∃ v w', (execOp ({ tmps := ts, defers := ds } : Act).eval o).run P w = .ok (.value v) w' ∧ R v w')
    (h : ∀ v w', R v w' → S w' ∧ Drawn P ops Q S zs fuel (listed.setIfInBounds i true) (ts.setIfInBounds d v) ds w')
    (hs : DrawnAll P ops Q S zs fuel listed ts ds w rs) : DrawnAll P ops Q S zs fuel listed ts ds w (i :: rs) :=
  drawn_cons ho (fun K hK => by
    rw [if_pos (by simp [Region.wanted, hg])]
    obtain ⟨v, w', hrun, hR⟩ := hr
    unfold Oper.wp
    rw [hrun]
    show K (({ tmps := ts, defers := ds } : Act).put o.dst v) w'
    rw [hd]
    obtain ⟨h1, h2⟩ := h v w' hR
    exact hK.out _ _ _ h1 h2) hs
variable {T : Type} {E : El T} {tS e : TypeId}
theorem app_does {z : Value} {by' : Nat} (ht : P.underlying tS = some (.slice e)) (hi0 : (P.info? e).map (fun i => (i.zero, i.size, i.bytes)) = some (some z, E.sz, by')) (hz : z.cells.size = E.sz) (hby : by' ≤ 1000)
    {w0 w : World} {a : Act} {o : Oper} {s x : Operand} (ho : o.op = .call { callee := .builtin .append, args := #[s, x], argTypes := #[tS, tS] }) {v y : Value} {l m : List T} (hs : a.eval s = v) (hx : a.eval x = y) (hn : NewE E e w0 w v l) (hy : RdE E w y m) (hl : l.length + m.length ≤ 3000000) :
    ∃ u w', (execOp a.eval o).run P w = .ok (.value u) w' ∧ NewE E e w0 w' u (l ++ m) ∧ Turn (fun k => v.ownBlock = some k) w w' := by
  obtain ⟨A, n, c, w', hr, g1, g2, g3⟩ := run_appE (P := P) ht hi0 hz hby w o.type v l hn.own y m hy hl
  refine ⟨_, w', ?_, hn.step g1 g2 g3, g2⟩
  unfold execOp
  simp only [ho, resolve, invoke, builtin, Sem.run_bind, Sem.run_pure, Result.andThen_ok, List.map_toArray, List.map_cons, List.map_nil, hs, hx, hr]

/-- append(append(append([]T{}, a...), x), b...): all that is read lies in slots; whatever order the rest comes in. -/
theorem drawn_ins {z : Value} {by' : Nat} (ht : P.underlying tS = some (.slice e)) (hi0 : (P.info? e).map (fun i => (i.zero, i.size, i.bytes)) = some (some z, E.sz, by')) (hz : z.cells.size = E.sz) (hby : by' ≤ 1000)
    {w0 : World} (HS : ∀ W, Turn (fun _ => False) w0 W → S W) (ie i1 ix i2 i3 de d1 dx d2 d3 kf kx kt : Nat) {oe o1 ox o2 o3 : Oper}
    (he : nthL ops.toList ie = some oe) (ge : oe.guard = none) (te : oe.dst = some de) (pe : oe.op = .buildSlice tS 0 #[])
    (h1 : nthL ops.toList i1 = some o1) (g1 : o1.guard = none) (t1 : o1.dst = some d1) (p1 : o1.op = .call { callee := .builtin .append, args := #[.tmp de, .tmp kf], argTypes := #[tS, tS] })
    (hx : nthL ops.toList ix = some ox) (gx : ox.guard = none) (tx : ox.dst = some dx) (px : ox.op = .buildSlice tS 1 #[(0, .tmp kx)])
    (h2 : nthL ops.toList i2 = some o2) (g2 : o2.guard = none) (t2 : o2.dst = some d2) (p2 : o2.op = .call { callee := .builtin .append, args := #[.tmp d1, .tmp dx], argTypes := #[tS, tS] })
    (h3 : nthL ops.toList i3 = some o3) (g3 : o3.guard = none) (t3 : o3.dst = some d3) (p3 : o3.op = .call { callee := .builtin .append, args := #[.tmp d2, .tmp kt], argTypes := #[tS, tS] })
    {fuel : Nat} {listed : Array Bool} {ts : Array Value} {ds : List Deferred} {w : World}
    (r0 : Region.ready .any ops listed = [ie, ix]) (re : Region.ready .any ops (listed.setIfInBounds ie true) = [i1, ix]) (re1 : Region.ready .any ops ((listed.setIfInBounds ie true).setIfInBounds i1 true) = [ix])
    (rex : Region.ready .any ops ((listed.setIfInBounds ie true).setIfInBounds ix true) = [i1]) (rx : Region.ready .any ops (listed.setIfInBounds ix true) = [ie])
    (r3 : Region.ready .any ops (((listed.setIfInBounds ie true).setIfInBounds i1 true).setIfInBounds ix true) = [i2]) (r4 : Region.ready .any ops ((((listed.setIfInBounds ie true).setIfInBounds i1 true).setIfInBounds ix true).setIfInBounds i2 true) = [i3])
    (hd : (ie ≠ i1 ∧ ie ≠ ix ∧ i1 ≠ ix) ∧ (de ≠ d1 ∧ de ≠ dx ∧ d1 ≠ dx ∧ de ≠ kf ∧ de ≠ kx ∧ dx ≠ kf ∧ d1 ≠ kx) ∧ (de ≠ kt ∧ d1 ≠ kt ∧ dx ≠ kt ∧ d2 ≠ kt) ∧ de < ts.size ∧ d1 < ts.size ∧ dx < ts.size ∧ d2 < ts.size)
    {vf vt xv : Value} {l1 l3 : List T} {x : T} (kf' : ts.getD kf undef = vf) (kt' : ts.getD kt undef = vt) (kx' : ts.getD kx undef = xv)
    (HF : ∀ W, Turn (fun _ => False) w0 W → RdE E W vf l1) (HT : ∀ W, Turn (fun _ => False) w0 W → RdE E W vt l3) (hl : l1.length + l3.length ≤ 2000000)
    (hE : ∀ W, (Instr.buildSlice tS 0 #[]).run P W = .ok (.slice (some ⟨W.heap.size, 0, none⟩) 0 0) (W.alloc (.cells #[] e)))
    (hX : ∀ W, (Instr.buildSlice tS 1 #[(0, xv)]).run P W = .ok (.slice (some ⟨W.heap.size, 0, none⟩) 1 1) (W.alloc (.cells (E.enc x).toArray e)))
    (hw : Turn (fun _ => False) w0 w)
    (h : ∀ W v a b c d, NewE E e w0 W v (l1 ++ x :: l3) → Drawn P ops Q S zs fuel (((((listed.setIfInBounds ie true).setIfInBounds i1 true).setIfInBounds ix true).setIfInBounds i2 true).setIfInBounds i3 true) (((((ts.setIfInBounds de a).setIfInBounds d1 b).setIfInBounds dx c).setIfInBounds d2 d).setIfInBounds d3 v) ds W) :
    Drawn P ops Q S zs (fuel + 5) listed ts ds w := by
  obtain ⟨⟨n1, n2, n3⟩, ⟨m1, m2, m3, m4, m5, m6, m7⟩, ⟨q1, q2, q3, q4⟩, s1, s2, s3, s4⟩ := hd
  have EE : ∀ (ts : Array Value) W, ∃ v w', (execOp ({ tmps := ts, defers := ds } : Act).eval oe).run P W = .ok (.value v) w' ∧ (v = .slice (some ⟨W.heap.size, 0, none⟩) 0 0 ∧ w' = W.alloc (.cells #[] e)) := fun ts W =>
    ⟨_, _, by unfold execOp; simp [pe, hE], rfl, rfl⟩
  have EX : ∀ (ts : Array Value) W, ts.getD kx undef = xv → ∃ v w', (execOp ({ tmps := ts, defers := ds } : Act).eval ox).run P W = .ok (.value v) w' ∧ (v = .slice (some ⟨W.heap.size, 0, none⟩) 1 1 ∧ w' = W.alloc (.cells (E.enc x).toArray e)) := fun ts W hk =>
    ⟨_, _, by rw [Array.getD_eq_getD_getElem?] at hk; unfold execOp; simp [px, Act.eval, hk, hX], rfl, rfl⟩
  have tail : ∀ (W : World) (a b c : Value), NewE E e w0 W b l1 → RdE E W c [x] →
      Drawn P ops Q S zs (fuel + 2) (((listed.setIfInBounds ie true).setIfInBounds i1 true).setIfInBounds ix true) (((ts.setIfInBounds de a).setIfInBounds d1 b).setIfInBounds dx c) ds W := fun W a b c hn hc => by
    refine drawn_any [i2] r3 (by simp) (drawn_does (fun u w' => NewE E e w0 w' u (l1 ++ [x])) h2 g2 t2 ?_ (fun u w' hu => ⟨HS _ hu.turn, ?_⟩) drawn_nil)
    · obtain ⟨u, w', e1, e2, -⟩ := app_does (P := P) ht hi0 hz hby (a := ({ tmps := ((ts.setIfInBounds de a).setIfInBounds d1 b).setIfInBounds dx c, defers := ds } : Act)) p2 (v := b) (y := c) (by simp only [Act.eval]; rw [slot_ne (Ne.symm m3), slot_eq (by simpa using s2)]) (by simp only [Act.eval]; rw [slot_eq (by simpa using s3)]) hn hc (by simp; omega)
      exact ⟨u, w', e1, e2⟩
    · refine drawn_any [i3] r4 (by simp) (drawn_does (fun v w' => NewE E e w0 w' v (l1 ++ x :: l3)) h3 g3 t3 ?_ (fun v w' hv => ⟨HS _ hv.turn, h w' v a b c u hv⟩) drawn_nil)
      obtain ⟨v, w'', e1, e2, -⟩ := app_does (P := P) ht hi0 hz hby (a := ({ tmps := (((ts.setIfInBounds de a).setIfInBounds d1 b).setIfInBounds dx c).setIfInBounds d2 u, defers := ds } : Act)) p3 (v := u) (y := vt) (by simp only [Act.eval]; rw [slot_eq (by simpa using s4)]) (by simp only [Act.eval]; rw [slot_ne q4, slot_ne q3, slot_ne q2, slot_ne q1, kt']) hu (HT _ hu.turn) (by simp; omega)
      exact ⟨v, w'', e1, by simpa using e2⟩
  refine drawn_any [ie, ix] r0 (by simp) (drawn_does (fun v w' => v = .slice (some ⟨w.heap.size, 0, none⟩) 0 0 ∧ w' = w.alloc (.cells #[] e)) he ge te (EE ts w) ?_ (drawn_does (fun v w' => v = .slice (some ⟨w.heap.size, 0, none⟩) 1 1 ∧ w' = w.alloc (.cells (E.enc x).toArray e)) hx gx tx (EX ts w kx') ?_ drawn_nil))
  · rintro v w' ⟨rfl, rfl⟩
    have hn := NewE.empty (E := E) (e := e) w0 w hw
    refine ⟨HS _ hn.turn, drawn_any [i1, ix] re (by simp) (drawn_does (fun u w' => NewE E e w0 w' u l1) h1 g1 t1 ?_ (fun u w' hu => ⟨HS _ hu.turn, ?_⟩) (drawn_does (fun v w' => v = .slice (some ⟨(w.alloc (.cells #[] e)).heap.size, 0, none⟩) 1 1 ∧ w' = (w.alloc (.cells #[] e)).alloc (.cells (E.enc x).toArray e)) hx gx tx (EX _ _ (by rw [slot_ne m5, kx'])) ?_ drawn_nil))⟩
    · obtain ⟨u, w', e1, e2, -⟩ := app_does (P := P) ht hi0 hz hby (a := ({ tmps := ts.setIfInBounds de (.slice (some ⟨w.heap.size, 0, none⟩) 0 0), defers := ds } : Act)) p1 (y := vf) (by simp only [Act.eval]; rw [slot_eq s1]) (by simp only [Act.eval]; rw [slot_ne m4, kf']) hn (HF _ hn.turn) (by simp; omega)
      exact ⟨u, w', e1, by simpa using e2⟩
    · refine drawn_any [ix] re1 (by simp) (drawn_does (fun v w2 => v = .slice (some ⟨w'.heap.size, 0, none⟩) 1 1 ∧ w2 = w'.alloc (.cells (E.enc x).toArray e)) hx gx tx (EX _ _ (by rw [slot_ne m7, slot_ne m5, kx'])) ?_ drawn_nil)
      rintro v w2 ⟨rfl, rfl⟩
      exact ⟨HS _ (hu.alloc _).turn, tail _ _ _ _ (hu.alloc _) (one_row E e w' x)⟩
    · rintro v w2 ⟨rfl, rfl⟩
      have hn2 := hn.alloc (.cells (E.enc x).toArray e)
      have hr := one_row E e (w.alloc (.cells #[] e)) x
      refine ⟨HS _ hn2.turn, drawn_any [i1] rex (by simp) (drawn_does (fun u w3 => NewE E e w0 w3 u l1 ∧ RdE E w3 (.slice (some ⟨(w.alloc (.cells #[] e)).heap.size, 0, none⟩) 1 1) [x]) h1 g1 t1 ?_ (fun u w3 hu => ⟨HS _ hu.1.turn, ?_⟩) drawn_nil)⟩
      · obtain ⟨u, w3, e1, e2, e3⟩ := app_does (P := P) ht hi0 hz hby (a := ({ tmps := (ts.setIfInBounds de (.slice (some ⟨w.heap.size, 0, none⟩) 0 0)).setIfInBounds dx (.slice (some ⟨(w.alloc (.cells #[] e)).heap.size, 0, none⟩) 1 1), defers := ds } : Act)) p1 (v := .slice (some ⟨w.heap.size, 0, none⟩) 0 0) (y := vf) (by simp only [Act.eval]; rw [slot_ne (Ne.symm m2), slot_eq s1]) (by simp only [Act.eval]; rw [slot_ne m6, slot_ne m4, kf']) hn2 (HF _ hn2.turn) (by simp; omega)
        refine ⟨u, w3, e1, by simpa using e2, hr.turn e3 (fun k h1 h2 => ?_)⟩
        rw [World.size_alloc] at h1
        simp [Value.ownBlock] at h1 h2
        omega
      · rw [Array.setIfInBounds_comm _ _ (Ne.symm n3), Array.setIfInBounds_comm _ _ (Ne.symm m3)]
        exact tail _ _ _ _ hu.1 hu.2
  · rintro v w' ⟨rfl, rfl⟩
    have hr := one_row E e w x
    have hw1 : Turn (fun _ => False) w0 (w.alloc (.cells (E.enc x).toArray e)) := hw.alloc _
    refine ⟨HS _ hw1, drawn_any [ie] rx (by simp) (drawn_does (fun v w' => v = .slice (some ⟨(w.alloc (.cells (E.enc x).toArray e)).heap.size, 0, none⟩) 0 0 ∧ w' = (w.alloc (.cells (E.enc x).toArray e)).alloc (.cells #[] e)) he ge te (EE _ _) ?_ drawn_nil)⟩
    rintro v w2 ⟨rfl, rfl⟩
    have hn := NewE.empty (E := E) (e := e) w0 _ hw1
    have hr2 := hr.later ((Turn.refl _ (w.alloc (.cells (E.enc x).toArray e))).alloc (.cells #[] e))
    rw [Array.setIfInBounds_comm _ _ (Ne.symm n2), Array.setIfInBounds_comm _ _ (Ne.symm m2)]
    refine ⟨HS _ hn.turn, drawn_any [i1] rex (by simp) (drawn_does (fun u w3 => NewE E e w0 w3 u l1 ∧ RdE E w3 (.slice (some ⟨w.heap.size, 0, none⟩) 1 1) [x]) h1 g1 t1 ?_ (fun u w3 hu => ⟨HS _ hu.1.turn, ?_⟩) drawn_nil)⟩
    · obtain ⟨u, w3, e1, e2, e3⟩ := app_does (P := P) ht hi0 hz hby (a := ({ tmps := (ts.setIfInBounds de (.slice (some ⟨(w.alloc (.cells (E.enc x).toArray e)).heap.size, 0, none⟩) 0 0)).setIfInBounds dx (.slice (some ⟨w.heap.size, 0, none⟩) 1 1), defers := ds } : Act)) p1 (v := .slice (some ⟨(w.alloc (.cells (E.enc x).toArray e)).heap.size, 0, none⟩) 0 0) (y := vf) (by simp only [Act.eval]; rw [slot_ne (Ne.symm m2), slot_eq s1]) (by simp only [Act.eval]; rw [slot_ne m6, slot_ne m4, kf']) hn (HF _ hn.turn) (by simp; omega)
      refine ⟨u, w3, e1, by simpa using e2, hr2.turn e3 (fun k h1 h2 => ?_)⟩
      rw [World.size_alloc] at h2
      simp [Value.ownBlock] at h1 h2
      omega
    · rw [Array.setIfInBounds_comm _ _ (Ne.symm n3), Array.setIfInBounds_comm _ _ (Ne.symm m3)]
      exact tail _ _ _ _ hu.1 hu.2
end

end Go.Proofs.Ytgchfckmhibeaaa

/-
  Stage 9: the document's ahead and Sort.
-/
namespace Go.Proofs.Ytgchfckmhibeaaa
open Go.RowKit

set_option maxRecDepth 100000

/-- Where a fact is put, from the end. -/
def downF (f : F9) (l : List F9) : Nat → Nat
  | 0 => 0
  | k + 1 => match l[k]? with
    | some g => if factLt f g then downF f l k else k + 1
    | none => k + 1
def putF9 (f : F9) (l : List F9) : List F9 := l.take (downF f l l.length) ++ f :: l.drop (downF f l l.length)
def sortL (l : List F9) : List F9 := l.foldl (fun out f => putF9 f out) []
theorem downF_le (f : F9) (l : List F9) : ∀ k, downF f l k ≤ k
  | 0 => Nat.le_refl _
  | k + 1 => by
    unfold downF
    split
    · split
      · have := downF_le f l k; omega
      · exact Nat.le_refl _
    · exact Nat.le_refl _
theorem sort_take {l : List F9} {i : Nat} {f : F9} (h : l[i]? = some f) : sortL (l.take (i + 1)) = putF9 f (sortL (l.take i)) := by
  obtain ⟨h0, e⟩ := List.getElem?_eq_some_iff.1 h
  rw [List.take_succ_eq_append_getElem h0, e]
  unfold sortL
  rw [List.foldl_append]
  rfl
theorem putF9_len (f : F9) (l : List F9) : (putF9 f l).length = l.length + 1 := by
  unfold putF9
  rw [List.length_append, List.length_cons, List.length_take, List.length_drop]
  have := downF_le f l l.length
  omega
theorem sort_len (l : List F9) : ∀ i, (sortL (l.take i)).length ≤ i
  | 0 => by simp [sortL]
  | i + 1 => by
    have ih := sort_len l i
    cases h : l[i]? with
    | none => rw [List.take_of_length_le (by have := List.getElem?_eq_none_iff.1 h; omega)]; rw [List.take_of_length_le (by have := List.getElem?_eq_none_iff.1 h; omega)] at ih; omega
    | some f =>
      rw [sort_take h, putF9_len]
      omega

end Go.Proofs.Ytgchfckmhibeaaa

/-
  Stage 9: the document's Sort.
-/
namespace Go.Proofs.Ytgchfckmhibeaaa
open Go.RowKit

set_option maxRecDepth 100000

/-- Behind a list of facts laid in new memory. -/
def Facts9 (w : World) (l : List F9) (e : Ending) (w' : World) : Prop := ∃ v, e = .returned v ∧ RdE EF w' v l ∧ Turn (fun _ => False) w w'

end Go.Proofs.Ytgchfckmhibeaaa

/-
  Stage 17: batches in memory, with their facts; the document's Replay.
-/
namespace Go.Proofs.Ytgchfckmhibeaaa
open Go.RowKit

set_option maxRecDepth 100000

/-- What turned none of a thing's cells. -/
theorem RdE.keep17 {T : Type} {E : El T} {w w' : World} {v : Value} {l : List T} {S : Nat → Prop} (h : RdE E w v l) (ht : Turn S w w') (hs : l ≠ [] → ∀ b, v.ownBlock = some b → b < w.heap.size → ¬ S b) : RdE E w' v l := by
  obtain ⟨A, c, rfl, hk, hn, hc⟩ := h
  refine ⟨A, c, rfl, hk, hn, fun ad e i u hi => ?_⟩
  have h1 := hc ad e i u hi
  have hlt := World.block_lt_of_cell? w _ h1
  rw [eadd_block] at hlt
  have hne : l ≠ [] := fun e => by rw [e] at hi; simp [El.flat] at hi
  rw [ht.cell (by rw [eadd_block]; exact hlt) (by subst e; rw [eadd_block]; exact hs hne _ rfl hlt)]
  exact h1
/-- Batches in memory, and their facts. -/
def BR17 (w : World) (v : Value) (L : List B17) : Prop := RdE EB17 w v L ∧ ∀ b ∈ L, RdE EF w b.sl b.f
theorem BR17.later {w w' : World} {v : Value} {L : List B17} (h : BR17 w v L) (ht : Turn (fun _ => False) w w') : BR17 w' v L := ⟨h.1.later ht, fun b hb => (h.2 b hb).later ht⟩
theorem BR17.shape {w : World} {v : Value} {L : List B17} (h : BR17 w v L) : ∃ A c, v = .slice A L.length c := h.1.shape
theorem bat_at17 {w : World} {A : Option Addr} {n c : Nat} {L : List B17} (h : RdE EB17 w (.slice A n c) L) {j : Nat} {b : B17} (hj : L[j]? = some b) :
    ∃ ad, A = some ad ∧ ∀ W, Turn (fun _ => False) w W → W.cell? (ad.add (j * 4)) = some (.int .i64 b.seq) ∧ W.cell? ⟨(ad.add (j * 4)).block, (ad.add (j * 4)).off + 1, none⟩ = some (.int .i64 b.tick) ∧ W.cell? ⟨(ad.add (j * 4)).block, (ad.add (j * 4)).off + 2, none⟩ = some (.int .i64 b.bud) ∧ W.cell? ⟨(ad.add (j * 4)).block, (ad.add (j * 4)).off + 3, none⟩ = some b.sl := by
  obtain ⟨ad, hA, _⟩ := h.cells hj
  refine ⟨ad, hA, fun W ht => ?_⟩
  obtain ⟨ad', hA', hc⟩ := (h.later ht).cells hj
  rw [hA] at hA'
  cases hA'
  have key : ∀ (k : Nat) (u : Value), (EB17.enc b)[k + 1]? = some u → W.cell? ⟨(ad.add (j * 4)).block, (ad.add (j * 4)).off + (k + 1), none⟩ = some u := fun k u hu => by
    rw [show (⟨(ad.add (j * 4)).block, (ad.add (j * 4)).off + (k + 1), none⟩ : Addr) = (ad.add (j * 4)).add (k + 1) from rfl, eadd_add]
    exact hc (k + 1) u hu
  exact ⟨hc 0 _ rfl, key 0 _ rfl, key 1 _ rfl, key 2 _ rfl⟩
/-- The facts of batches that a call lays into a row of its own: none lies in that row. -/
def Off17 (w : World) (x : Value) (L : List B17) : Prop := ∀ b ∈ L, RdE EF w b.sl b.f ∧ (b.f ≠ [] → ∀ k, b.sl.ownBlock = some k → k < w.heap.size → x.ownBlock ≠ some k)
theorem Off17.nil (w : World) (x : Value) : Off17 w x [] := fun b hb => by cases hb
theorem Off17.later {w w' : World} {x : Value} {L : List B17} (h : Off17 w x L) (ht : Turn (fun _ => False) w w') : Off17 w' x L := fun b hb => by
  obtain ⟨h1, h2⟩ := h b hb
  refine ⟨h1.later ht, fun hne k hk hlt => h2 hne k hk ?_⟩
  obtain ⟨A, c, e⟩ := h1.shape
  rw [e] at h1 hk
  cases hf : b.f with
  | nil => exact absurd hf hne
  | cons f r =>
    obtain ⟨ad, hA, hc⟩ := fact_at h1 (j := 0) (f := f) (by rw [hf]; rfl)
    have hq := World.block_lt_of_cell? w _ (hc w (Turn.refl _ w)).1
    rw [eadd_block] at hq
    subst hA
    have e2 : ad.block = k := by simpa [Value.ownBlock] using hk
    omega
theorem off_lt17 {w : World} {b : B17} (h : RdE EF w b.sl b.f) (hne : b.f ≠ []) {k : Nat} (hk : b.sl.ownBlock = some k) : k < w.heap.size := by
  obtain ⟨A, c, e⟩ := h.shape
  rw [e] at h hk
  cases hf : b.f with
  | nil => exact absurd hf hne
  | cons f r =>
    obtain ⟨ad, hA, hc⟩ := fact_at h (j := 0) (f := f) (by rw [hf]; rfl)
    have hq := World.block_lt_of_cell? w _ (hc w (Turn.refl _ w)).1
    rw [eadd_block] at hq
    subst hA
    have e2 : ad.block = k := by simpa [Value.ownBlock] using hk
    omega
/-- One more. -/
theorem Off17.step {w w1 : World} {x x1 : Value} {L : List B17} {b : B17} (h : Off17 w x L) (hb : RdE EF w b.sl b.f) (hn : b.f ≠ [] → ∀ k, b.sl.ownBlock = some k → x.ownBlock ≠ some k) (ht : Turn (fun k => x.ownBlock = some k) w w1) (h1 : x1.ownBlock = x.ownBlock ∨ x1.ownBlock = some w.heap.size) : Off17 w1 x1 (L ++ [b]) := by
  have key : ∀ c : B17, RdE EF w c.sl c.f → (c.f ≠ [] → ∀ k, c.sl.ownBlock = some k → x.ownBlock ≠ some k) → RdE EF w1 c.sl c.f ∧ (c.f ≠ [] → ∀ k, c.sl.ownBlock = some k → k < w1.heap.size → x1.ownBlock ≠ some k) := fun c hc hx => by
    refine ⟨hc.keep17 ht (fun hne k hk _ e => hx hne k hk e), fun hne k hk _ e => ?_⟩
    have hlt := off_lt17 hc hne hk
    rcases h1 with e1 | e1
    · exact hx hne k hk (by rw [← e1]; exact e)
    · rw [e1] at e
      injection e with e
      omega
  intro c hc
  rcases List.mem_append.1 hc with hc | hc
  · exact key c (h c hc).1 (fun hne k hk => (h c hc).2 hne k hk (off_lt17 (h c hc).1 hne hk))
  · rw [List.mem_singleton.1 hc]
    exact key b hb hn
theorem bat_info17 : (Try.prog.info? 52).map (fun i => (i.zero, i.size, i.bytes)) = some (some (bv17 zb17), EB17.sz, 48) := by kernel_rfl
theorem bat_zero17 : (Value.cells (bv17 zb17)).size = EB17.sz := rfl
theorem wpList_bats17 (w : World) {ops : Array Oper} {rest : List Oper} {o : Oper} {a : Act} {Q : Exit → Act → World → Prop} (hgd : o.guard = none) (s x : Operand)
    (ho : o.op = .call { callee := .builtin .append, args := #[s, x], argTypes := #[23, 23] }) (v : Value) (l : List B17) (hs : a.eval s = v) (hown : OwE EB17 52 w v l)
    (y : Value) (hx : a.eval x = y) (m : List B17) (hy : RdE EB17 w y m) (hl : l.length + m.length ≤ 1000000)
    (h : ∀ A n c w', OwE EB17 52 w' (.slice A n c) (l ++ m) → Turn (fun k => v.ownBlock = some k) w w' → ((Value.slice A n c).ownBlock = v.ownBlock ∨ (Value.slice A n c).ownBlock = some w.heap.size) → wpList Try.prog ops Q rest (a.put o.dst (.slice A n c)) w') :
    wpList Try.prog ops Q (o :: rest) a w :=
  wpList_appE Try.underlying23 bat_info17 bat_zero17 w hgd s x _ ho v l hs hown y hx m (hy.src Try.underlying23) (by simp only [maxLen]; omega) (by omega) h

/-- What is played behind some batches. -/
def on17 (n : Int) (xs : List (Nat × List UInt8)) (E : Nat) (L : List B17) (i : Nat) : List P17 × Nat :=
  (L.map B17.p ++ (play17 n (xs.drop i) (L.getLast?.map (·.seq)) E).1, (play17 n (xs.drop i) (L.getLast?.map (·.seq)) E).2)
theorem on_start17 (n : Int) (xs : List (Nat × List UInt8)) (E : Nat) : on17 n xs E [] 0 = play17 n xs none E := rfl
theorem on_end17 {n : Int} {xs : List (Nat × List UInt8)} {E : Nat} {L : List B17} {i : Nat} (h : xs.length ≤ i) : on17 n xs E L i = (L.map B17.p, E) := by
  unfold on17
  rw [List.drop_eq_nil_of_le h]
  show (_ ++ [], E) = _
  rw [List.append_nil]
theorem drop_at17 {α : Type} {xs : List α} {i : Nat} {x : α} (h : xs[i]? = some x) : xs.drop i = x :: xs.drop (i + 1) := by
  obtain ⟨h0, e⟩ := List.getElem?_eq_some_iff.1 h
  rw [List.drop_eq_getElem_cons h0, e]
theorem on_bad17 {n : Int} {xs : List (Nat × List UInt8)} {E : Nat} {L : List B17} {i j : Nat} {p : List UInt8} (h : xs[i]? = some (j, p)) (hf : (parse17 p n).2 ≠ 0) : on17 n xs E L i = (L.map B17.p, j) := by
  unfold on17
  rw [drop_at17 h]
  unfold play17
  rw [if_pos hf, List.append_nil]
theorem on_low17 {n : Int} {xs : List (Nat × List UInt8)} {E : Nat} {L : List B17} {i j : Nat} {p : List UInt8} (h : xs[i]? = some (j, p)) (hf : (parse17 p n).2 = 0) {b : B17} (hl : L.getLast? = some b) (hs : (parse17 p n).1.seq ≤ b.seq) : on17 n xs E L i = (L.map B17.p, j) := by
  unfold on17
  rw [drop_at17 h, hl]
  unfold play17
  rw [if_neg (by rw [hf]; simp), if_pos (by simp [hs]), List.append_nil]
theorem on_next17 {n : Int} {xs : List (Nat × List UInt8)} {E : Nat} {L : List B17} {i j : Nat} {p : List UInt8} (h : xs[i]? = some (j, p)) (hf : (parse17 p n).2 = 0) {b : B17} (hb : b.p = (parse17 p n).1) (hs : ∀ c, L.getLast? = some c → ¬ (parse17 p n).1.seq ≤ c.seq) : on17 n xs E L i = on17 n xs E (L ++ [b]) (i + 1) := by
  unfold on17
  rw [drop_at17 h]
  conv => lhs; unfold play17
  rw [if_neg (by rw [hf]; simp)]
  have hany : (L.getLast?.map (·.seq)).any (fun s => decide ((parse17 p n).1.seq ≤ s)) = false := by
    cases hl : L.getLast? with
    | none => rfl
    | some c => simp [Option.any]; have := hs c hl; omega
  rw [if_neg (by rw [hany]; decide), List.getLast?_append]
  simp only [List.map_append, List.map_cons, List.map_nil, List.getLast?_singleton, Option.some_or, Option.map_some, hb.symm, List.append_assoc, List.cons_append, List.nil_append]
  rfl

end Go.Proofs.Ytgchfckmhibeaaa

/-
  Stage 17: the document's Bytes.
-/
namespace Go.Proofs.Ytgchfckmhibeaaa
open Go.RowKit

set_option maxRecDepth 100000

/-- What comes behind some bytes. -/
def comb17 (acc : List UInt8) (r : List UInt8 × Int) : List UInt8 × Int := if r.2 ≠ 0 then ([], r.2) else (acc ++ r.1, 0)
theorem comb_start17 (n : Int) (l : List P17) : bytes17 n l = comb17 [] (bytes17 n l) := by
  unfold comb17
  split
  · rename_i h
    cases l with
    | nil => exact absurd rfl h
    | cons b r =>
      unfold bytes17 at h ⊢
      by_cases h1 : (rec17 b n).2 ≠ 0
      · rw [if_pos h1]
      · rw [if_neg h1] at h ⊢
        by_cases h2 : (bytes17 n r).2 ≠ 0
        · rw [if_pos h2]
        · rw [if_neg h2] at h
          exact absurd rfl h
  · rename_i h
    have h : (bytes17 n l).2 = 0 := by simpa using h
    rw [List.nil_append, ← h]
theorem comb_next17 {n : Int} {b : P17} {r : List P17} {acc : List UInt8} (h : (rec17 b n).2 = 0) : comb17 acc (bytes17 n (b :: r)) = comb17 (acc ++ (rec17 b n).1) (bytes17 n r) := by
  have e : bytes17 n (b :: r) = if (bytes17 n r).2 ≠ 0 then ([], (bytes17 n r).2) else ((rec17 b n).1 ++ (bytes17 n r).1, 0) := by
    conv => lhs; unfold bytes17
    rw [if_neg (by rw [h]; simp)]
  rw [e]
  unfold comb17
  by_cases h2 : (bytes17 n r).2 ≠ 0
  · rw [if_pos h2, if_pos h2, if_pos h2]
  · rw [if_neg h2, if_neg h2, if_neg (by simp), List.append_assoc]
theorem comb_bad17 {n : Int} {b : P17} {r : List P17} {acc : List UInt8} (h : (rec17 b n).2 ≠ 0) : comb17 acc (bytes17 n (b :: r)) = ([], (rec17 b n).2) := by
  have e : bytes17 n (b :: r) = ([], (rec17 b n).2) := by
    unfold bytes17
    rw [if_pos h]
  rw [e]
  unfold comb17
  rw [if_pos h]
theorem comb_end17 {n : Int} {acc : List UInt8} : comb17 acc (bytes17 n []) = (acc, 0) := by
  show comb17 acc ([], 0) = _
  unfold comb17
  rw [if_neg (by simp), List.append_nil]
/-- Batches whose records are no great ones. -/
def Few17 (n : Int) (L : List B17) : Prop := L.length ≤ 100 ∧ ∀ b ∈ L, b.f.length ≤ 1000 ∧ ((allB b.f n).1 = 0 → (batchB b.f n.toNat).length ≤ 700000)
theorem rec_len17 {b : P17} {n : Int} (h : (allB b.f n).1 = 0 → (batchB b.f n.toNat).length ≤ 700000) : (rec17 b n).1.length ≤ 1000000 := by
  unfold rec17
  split
  · rename_i hr
    unfold right17 at hr
    rw [Bool.and_eq_true, decide_eq_true_iff] at hr
    have h1 := h hr.1
    have h2 : (pay17 b n.toNat).length ≤ 900000 := by
      show (enc b.seq.toNat ++ enc b.tick.toNat ++ enc b.bud.toNat ++ batchB b.f n.toNat).length ≤ _
      have := enc_len b.seq.toNat; have := enc_len b.tick.toNat; have := enc_len b.bud.toNat
      simp only [List.length_append]
      omega
    have h3 := enc_len (pay17 b n.toNat).length
    show (fr (pay17 b n.toNat)).length ≤ _
    unfold fr
    simp only [List.length_append, tl_len]
    omega
  · exact Nat.zero_le _

set_option maxHeartbeats 8000000 in
theorem ref_bytes17 (v : Value) (L : List B17) (n : Int) (w : World) (hv : BR17 w v L) (hf : Few17 n L) : Calls Try.prog 12 #[v, .int .i64 n] w fun e w' => Rec17 w (bytes17 n (L.map B17.p)) e w' := by
  have HV := Lib.hid hv
  obtain ⟨A, c, rfl⟩ := hv.shape
  have HSPEC : Hid (bytes17 n (L.map B17.p) = comb17 [] (bytes17 n ((L.drop 0).map B17.p))) := comb_start17 _ _
  have HFW := Lib.hid hf
  obtain ⟨M, hM⟩ : ∃ M, M = L.length := ⟨_, rfl⟩
  have hMb : M ≤ 100 := by have := hf.1; omega
  rw [← hM]
  rw [← hM] at HV
  have HM := Lib.hid hM
  clear hv hf hM
  go_enter Try.func12, Try.ntmps12
  go_wp2_with fail
  go_loopw [6, 7] (fun x6 x7 wr => ∃ (i : Nat) (acc : List UInt8), x7 = .int .i64 (i : Int) ∧ i ≤ M ∧ acc.length ≤ i * 1000000 ∧ Made w wr x6 acc ∧ bytes17 n (L.map B17.p) = comb17 acc (bytes17 n ((L.drop i).map B17.p))) (fun _ x7 _ => M - (intOf x7).toNat)
  case atStart => exact ⟨0, [], rfl, Nat.zero_le _, Nat.le_refl _, made_none17 (Turn.refl _ w), HSPEC.out⟩
  case round =>
    clear HSPEC
    obtain ⟨i, acc, rfl, hi, hla, hm, hsp⟩ := hrel
    have HMD := Lib.hid hm
    have HSP := Lib.hid hsp
    have HLA := Lib.hid hla
    obtain ⟨A6, c6, rfl⟩ := hm.1.shape
    clear hm hsp hla
    by_cases hlt : i < M
    · have hil : (i : Int) < M := by omega
      obtain ⟨b, hb⟩ : ∃ b, L[i]? = some b := ⟨_, List.getElem?_eq_getElem (by rw [← HM.out]; exact hlt)⟩
      have hbm : b ∈ L := List.mem_of_getElem? hb
      obtain ⟨ad, rfl, hc⟩ := bat_at17 HV.out.1 hb
      obtain ⟨a0, a1, a2, a3⟩ := hc wr HMD.out.2.1
      have HDR : Hid ((L.drop i).map B17.p = b.p :: (L.drop (i + 1)).map B17.p) := by show _ = _; rw [drop_at17 hb]; rfl
      have HRC := Lib.hid (ref_rec17 b n wr ((HV.out.2 b hbm).later HMD.out.2.1) (HFW.out.2 b hbm).1 (HFW.out.2 b hbm).2)
      have HRL : Hid ((rec17 b.p n).1.length ≤ 1000000) := rec_len17 (b := b.p) (HFW.out.2 b hbm).2
      have HSQ : Hid (bytes17 n (L.map B17.p) = comb17 acc (bytes17 n (b.p :: (L.drop (i + 1)).map B17.p))) := by show _ = _; rw [HSP.out, HDR.out]
      clear hb hbm hc HSP HDR
      unfold Rec17 at HRC
      go_wp2_with fail
      refine HRC.out.mono ?_
      rintro e w2 ⟨v2, rfl, hm2⟩
      obtain ⟨A2, c2, rfl⟩ := hm2.1.shape
      have HM2 := Lib.hid hm2
      clear hm2 HRC a0 a1 a2 a3
      by_cases h0 : (rec17 b.p n).2 = 0
      · have HNX : Hid (bytes17 n (L.map B17.p) = comb17 (acc ++ (rec17 b.p n).1) (bytes17 n ((L.drop (i + 1)).map B17.p))) := by show _ = _; rw [HSQ.out]; exact comb_next17 h0
        rw [h0]
        clear h0 HSQ
        generalize (rec17 b.p n).1 = R at *
        have HB2 : Hid (By w2 (.slice A6 acc.length c6) acc) := HMD.out.1.turn HM2.out.2.1 (fun _ _ f => f)
        have HLC : Hid (acc.length + R.length ≤ 1000000000) := by show _ ≤ _; have := HLA.out; have := HRL.out; omega
        go_wp2_with (at_builtin; go_must (refine wpList_app _ rfl _ _ _ rfl _ acc rfl HB2.out _ rfl R HM2.out.1.yields HLC.out ?_))
        intro A3 n3 c3 w3 hby hg ha
        have HM3 := Lib.hid (made_more17 HMD.out HM2.out.2.1 hby hg ha)
        clear hby hg ha
        go_wp2
        go_roundw
        case rel => exact ⟨i + 1, _, by go_num, hlt, by rw [List.length_append]; have := HLA.out; have := HRL.out; omega, HM3.out, HNX.out⟩
        case measure => simp [intOf]; omega
      · have HND : Hid (bytes17 n (L.map B17.p) = ([], (rec17 b.p n).2)) := by show _ = _; rw [HSQ.out]; exact comb_bad17 h0
        have h1 : ((rec17 b.p n).2 == 0) = false := by rw [beq_eq_false_iff_ne]; exact h0
        have h2 : ((rec17 b.p n).2 != 0) = true := by rw [bne_iff_ne]; exact h0
        have HTE := Lib.hid (HMD.out.2.1.trans HM2.out.2.1 (fun _ _ f => f))
        clear h0 HSQ
        generalize (rec17 b.p n).2 = f at *
        go_wp2
        go_ret2
        exact ⟨.slice none 0 0, by rw [HND.out]; rfl, by rw [HND.out]; exact made_none17 HTE.out⟩
    · obtain rfl : i = M := by omega
      have HND : Hid (bytes17 n (L.map B17.p) = (acc, 0)) := by show _ = _; rw [HSP.out, List.drop_eq_nil_of_le (Nat.le_of_eq HM.out.symm)]; exact comb_end17
      clear HSP
      go_wp2
      go_ret2
      exact ⟨_, by rw [HND.out]; rfl, by rw [HND.out]; exact HMD.out⟩

end Go.Proofs.Ytgchfckmhibeaaa
