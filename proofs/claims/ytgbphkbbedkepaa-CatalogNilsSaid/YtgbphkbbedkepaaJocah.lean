/-
  Texts laid one behind the other: R4b R4c R4d R4e R4g R4f R3o R4h.
-/
import Derived.Test.YtgbphkbbedkepaaJocag
import Derived.Test.YtgbphkbbedkepaaJocab
import Derived.Laws.StructEq
import Derived.Test.YtgbphkbbedkepaaJocaf
import Derived.Laws.ResultCell
import Derived.Lib.MinMax
import Derived.Deep.Strs
import Derived.Lib.SmallJoins

/-
  Stage 20: entries and partitions in memory; == on them.
-/
namespace Go.Proofs.Ytgbphkbbedkepaa
open Go.RowKit

set_option maxRecDepth 100000

abbrev ecells20 (e : N20) : Array Value := #[.int .i64 e.p.t, .int .i64 e.p.i, .int .i64 e.seg, .int .i64 e.mark, .int .i64 e.rows, .bool e.cold]
abbrev ev20 (e : N20) : Value := .agg (ecells20 e)
def EN20 : El N20 where
  sz := 6
  enc e := [.int .i64 e.p.t, .int .i64 e.p.i, .int .i64 e.seg, .int .i64 e.mark, .int .i64 e.rows, .bool e.cold]
  len _ := rfl
  one e u hu := by
    simp only [List.mem_cons, List.not_mem_nil, or_false] at hu
    rcases hu with rfl | rfl | rfl | rfl | rfl | rfl <;> rfl
instance : Inhabited T19 := ⟨⟨0, 0⟩⟩
def ET20 : El T19 where
  sz := 2
  enc p := [.int .i64 p.t, .int .i64 p.i]
  len _ := rfl
  one p u hu := by
    simp only [List.mem_cons, List.not_mem_nil, or_false] at hu
    rcases hu with rfl | rfl <;> rfl
theorem ent_info20 : (Try.prog.info? 32).map (fun i => (i.zero, i.size, i.bytes)) = some (some (ev20 zero20), EN20.sz, 48) := by kernel_rfl
theorem ent_zero20 : (Value.cells (ev20 zero20)).size = EN20.sz := rfl
theorem ent_size20 : (Try.prog.info? 32).map (·.size) = some EN20.sz := by kernel_rfl
theorem box_n20 {W : World} {g : Nat} {t : TypeId} {e : N20} (h : Box W g t (ecells20 e)) : W.cell? ⟨g, 0, none⟩ = some (.int .i64 e.p.t) ∧ W.cell? ⟨g, 1, none⟩ = some (.int .i64 e.p.i) ∧ W.cell? ⟨g, 2, none⟩ = some (.int .i64 e.seg) ∧ W.cell? ⟨g, 3, none⟩ = some (.int .i64 e.mark) ∧ W.cell? ⟨g, 4, none⟩ = some (.int .i64 e.rows) ∧ W.cell? ⟨g, 5, none⟩ = some (.bool e.cold) :=
  ⟨h.cell 0, h.cell 1, h.cell 2, h.cell 3, h.cell 4, h.cell 5⟩
theorem ent_at20 {w : World} {A : Option Addr} {n c : Nat} {L : List N20} (h : RdE EN20 w (.slice A n c) L) {j : Nat} {e : N20} (hj : L[j]? = some e) :
    ∃ ad, A = some ad ∧ ∀ W, Turn (fun _ => False) w W → W.cell? (ad.add (j * 6)) = some (.int .i64 e.p.t) ∧ W.cell? ⟨(ad.add (j * 6)).block, (ad.add (j * 6)).off + 1, none⟩ = some (.int .i64 e.p.i) ∧ W.cell? ⟨(ad.add (j * 6)).block, (ad.add (j * 6)).off + 2, none⟩ = some (.int .i64 e.seg) ∧
      W.cell? ⟨(ad.add (j * 6)).block, (ad.add (j * 6)).off + 3, none⟩ = some (.int .i64 e.mark) ∧ W.cell? ⟨(ad.add (j * 6)).block, (ad.add (j * 6)).off + 4, none⟩ = some (.int .i64 e.rows) ∧ W.cell? ⟨(ad.add (j * 6)).block, (ad.add (j * 6)).off + 5, none⟩ = some (.bool e.cold) := by
  obtain ⟨ad, hA, _⟩ := h.cells hj
  refine ⟨ad, hA, fun W ht => ?_⟩
  obtain ⟨ad', hA', hc⟩ := (h.later ht).cells hj
  rw [hA] at hA'
  cases hA'
  have key : ∀ (k : Nat) (u : Value), (EN20.enc e)[k + 1]? = some u → W.cell? ⟨(ad.add (j * 6)).block, (ad.add (j * 6)).off + (k + 1), none⟩ = some u := fun k u hu => by
    rw [show (⟨(ad.add (j * 6)).block, (ad.add (j * 6)).off + (k + 1), none⟩ : Addr) = (ad.add (j * 6)).add (k + 1) from rfl, eadd_add]
    exact hc (k + 1) u hu
  exact ⟨hc 0 _ rfl, key 0 _ rfl, key 1 _ rfl, key 2 _ rfl, key 3 _ rfl, key 4 _ rfl⟩
theorem part_at20 {w : World} {A : Option Addr} {n c : Nat} {L : List T19} (h : RdE ET20 w (.slice A n c) L) {j : Nat} {e : T19} (hj : L[j]? = some e) :
    ∃ ad, A = some ad ∧ ∀ W, Turn (fun _ => False) w W → W.cell? (ad.add (j * 2)) = some (.int .i64 e.t) ∧ W.cell? ⟨(ad.add (j * 2)).block, (ad.add (j * 2)).off + 1, none⟩ = some (.int .i64 e.i) := by
  obtain ⟨ad, hA, _⟩ := h.cells hj
  refine ⟨ad, hA, fun W ht => ?_⟩
  obtain ⟨ad', hA', hc⟩ := (h.later ht).cells hj
  rw [hA] at hA'
  cases hA'
  have key : ∀ (k : Nat) (u : Value), (ET20.enc e)[k + 1]? = some u → W.cell? ⟨(ad.add (j * 2)).block, (ad.add (j * 2)).off + (k + 1), none⟩ = some u := fun k u hu => by
    rw [show (⟨(ad.add (j * 2)).block, (ad.add (j * 2)).off + (k + 1), none⟩ : Addr) = (ad.add (j * 2)).add (k + 1) from rfl, eadd_add]
    exact hc (k + 1) u hu
  exact ⟨hc 0 _ rfl, key 0 _ rfl⟩
def eqN (a b : N20) : Bool := eqT a.p b.p && (decide (a.seg = b.seg) && (decide (a.mark = b.mark) && (decide (a.rows = b.rows) && decide (a.cold = b.cold))))
theorem eqN_iff {a b : N20} : eqN a b = true ↔ a = b := by
  unfold eqN
  simp only [Bool.and_eq_true, decide_eq_true_iff, eqT_iff]
  constructor
  · rintro ⟨h1, h2, h3, h4, h5⟩
    cases a; cases b
    simp only at h1 h2 h3 h4 h5
    subst h1 h2 h3 h4 h5
    rfl
  · rintro rfl
    exact ⟨rfl, rfl, rfl, rfl, rfl⟩
theorem eq_ent20 (d : Nat) (p q : N20) (w : World) : (Op.equalIn (d + 3) 32 (ev20 p) (ev20 q)).run Try.prog w = .ok (eqN p q) w := by
  have hS : Try.prog.underlying 32 = some (.struct (Try.prog.fieldsOf 32)) := by kernel_rfl
  have hp : Try.prog.stoodInHeld 32 = false := by kernel_rfl
  have u2 := Try.underlying2
  have i2 := Try.isAgg2
  have z2 := Try.sizeOf2
  have u3 := Try.underlying4
  have i3 := Try.isAgg4
  have z3 := Try.sizeOf4
  have i4 := Try.isAgg24
  have z4 := Try.sizeOf24
  have key := eq_part20 d p.p q.p
  rw [run_equalIn_agg w (d + 2) 32 _ _ hS hp]
  simp only [Program.fieldsOf, Try.underlying32]
  go_simp
  obtain ⟨⟨t, i⟩, a, b, c, e⟩ := p
  obtain ⟨⟨t', i'⟩, a', b', c', e'⟩ := q
  unfold eqN
  by_cases h0 : eqT ⟨t, i⟩ ⟨t', i'⟩ = true <;> by_cases h1 : a = a' <;> by_cases h2 : b = b' <;> by_cases h3 : c = c' <;> by_cases h4 : e = e' <;> simp [h0, h1, h2, h3, h4]
theorem run_eql_ent20 (p q : N20) (w : World) : (binOp .eql 32 (ev20 p) (ev20 q)).run Try.prog w = .ok (.bool (eqN p q)) w := by
  rw [run_eql_struct, show (10000 : Nat) = 9997 + 3 from rfl, eq_ent20]
  rfl
theorem run_neq_ent20 (p q : N20) (w : World) : (binOp .neq 32 (ev20 p) (ev20 q)).run Try.prog w = .ok (.bool (!eqN p q)) w := by
  rw [run_neq_struct, show (10000 : Nat) = 9997 + 3 from rfl, eq_ent20]
  rfl

end Go.Proofs.Ytgbphkbbedkepaa

/-
  Stage 20: the document's in, Right, Same.
-/
namespace Go.Proofs.Ytgbphkbbedkepaa
open Go.RowKit

set_option maxRecDepth 100000

theorem ref_in20 (n a b : Int) (w : World) : Calls Try.prog 89 #[.int .i64 n, .int .i64 a, .int .i64 b] w fun e w' => e = .returned (.bool (in20 n a b)) ∧ w' = w := by
  by_cases h1 : a ≤ n
  · by_cases h2 : n ≤ b
    · have HB : Hid (in20 n a b = true) := by show _ = _; unfold in20; rw [decide_eq_true h1, decide_eq_true h2]; rfl
      go_enter Try.func89, Try.ntmps89
      go_wp2
      go_ret
      exact ⟨by rw [HB.out]; first | rfl | exact ret_bool (decide_eq_true (by omega)), rfl⟩
    · have HB : Hid (in20 n a b = false) := by show _ = _; unfold in20; rw [decide_eq_false h2, Bool.and_false]
      have h3 : b < n := by omega
      clear h2
      go_enter Try.func89, Try.ntmps89
      go_wp2
      go_ret
      exact ⟨by rw [HB.out]; first | rfl | exact ret_bool (decide_eq_false (by omega)), rfl⟩
  · have HB : Hid (in20 n a b = false) := by show _ = _; unfold in20; rw [decide_eq_false h1, Bool.false_and]
    have h3 : n < a := by omega
    clear h1
    go_enter Try.func89, Try.ntmps89
    go_wp2
    go_ret
    exact ⟨by rw [HB.out]; first | rfl | exact ret_bool (decide_eq_false (by omega)), rfl⟩

set_option maxHeartbeats 4000000 in
theorem ref_right20 (e : N20) (w : World) : Calls Try.prog 60 #[ev20 e] w fun e' w' => e' = .returned (.bool (right20 e)) ∧ Turn (fun _ => False) w w' := by
  obtain ⟨wb, hwb⟩ : ∃ wb, wb = w.alloc (.cells (ecells20 e) 32) := ⟨_, rfl⟩
  obtain ⟨q, hq⟩ : ∃ q, q = w.heap.size := ⟨_, rfl⟩
  have HTB : Hid (Turn (fun _ => False) w wb) := by rw [hwb]; exact (Turn.refl _ w).alloc _
  have HBX : Hid (Box wb q 32 (ecells20 e)) := by rw [hwb, hq]; exact Box.new w _ _
  have HWB := Lib.hid hwb; have HQ := Lib.hid hq
  obtain ⟨k0, k1, -⟩ := box_n20 (Box.new w 32 (ecells20 e))
  have HRT : Hid (Calls Try.prog 49 #[tv19 e.p] wb fun e' w' => e' = .returned (.bool (right19 e.p)) ∧ Turn (fun _ => False) wb w') := ref_right19 e.p wb
  have HI1 : Hid (∀ W, Calls Try.prog 89 #[.int .i64 e.seg, .int .i64 1, .int .i64 4611686018427387904] W fun e' w' => e' = .returned (.bool (in20 e.seg 1 4611686018427387904)) ∧ w' = W) := fun W => ref_in20 _ _ _ W
  have HI2 : Hid (∀ W, Calls Try.prog 89 #[.int .i64 e.rows, .int .i64 1, .int .i64 4611686018427387904] W fun e' w' => e' = .returned (.bool (in20 e.rows 1 4611686018427387904)) ∧ w' = W) := fun W => ref_in20 _ _ _ W
  have HI3 : Hid (∀ W, Calls Try.prog 89 #[.int .i64 e.mark, .int .i64 0, .int .i64 4611686018427387904] W fun e' w' => e' = .returned (.bool (in20 e.mark 0 4611686018427387904)) ∧ w' = W) := fun W => ref_in20 _ _ _ W
  have HR : Hid (right20 e = (right19 e.p && (in20 e.seg 1 4611686018427387904 && (in20 e.rows 1 4611686018427387904 && (in20 e.mark 0 4611686018427387904 && (!e.cold || decide (e.p.t = 3))))))) := rfl
  generalize right20 e = res at *
  obtain ⟨⟨t, i⟩, seg, mark, rows, cold⟩ := e
  dsimp only at *
  generalize right19 ⟨t, i⟩ = r at *
  generalize in20 seg 1 4611686018427387904 = p1 at *
  generalize in20 rows 1 4611686018427387904 = p2 at *
  generalize in20 mark 0 4611686018427387904 = p3 at *
  clear hwb hq
  cases r with
  | false =>
    have HB := HR.out
    simp at HB
    have HB := Lib.hid HB
    clear HR
    go_enter Try.func60, Try.ntmps60
    go_wp2_with fail
    rw [← HWB.out, ← HQ.out]
    refine HRT.out.mono ?_
    rintro e' w1 ⟨rfl, t1⟩
    obtain ⟨c0, c1, c2, c3, c4, c5⟩ := box_n20 (HBX.out.turn t1 (fun f => f))
    dsimp only at c0 c1 c2 c3 c4 c5
    have HT1 := Lib.hid (HTB.out.trans t1 (fun _ _ f => f))
    clear t1 HRT k0 k1
    go_wp2_with (first
      | (with_reducible refine (HI1.out _).mono ?_; rintro e' w' ⟨rfl, rfl⟩)
      | (with_reducible refine (HI2.out _).mono ?_; rintro e' w' ⟨rfl, rfl⟩)
      | (with_reducible refine (HI3.out _).mono ?_; rintro e' w' ⟨rfl, rfl⟩)
      | fail)
    go_ret
    exact ⟨by rw [HB.out]; rfl, HT1.out⟩
  | true =>
    cases p1 with
    | false =>
      have HB := HR.out
      simp at HB
      have HB := Lib.hid HB
      clear HR
      go_enter Try.func60, Try.ntmps60
      go_wp2_with fail
      rw [← HWB.out, ← HQ.out]
      refine HRT.out.mono ?_
      rintro e' w1 ⟨rfl, t1⟩
      obtain ⟨c0, c1, c2, c3, c4, c5⟩ := box_n20 (HBX.out.turn t1 (fun f => f))
      dsimp only at c0 c1 c2 c3 c4 c5
      have HT1 := Lib.hid (HTB.out.trans t1 (fun _ _ f => f))
      clear t1 HRT k0 k1
      go_wp2_with (first
        | (with_reducible refine (HI1.out _).mono ?_; rintro e' w' ⟨rfl, rfl⟩)
        | (with_reducible refine (HI2.out _).mono ?_; rintro e' w' ⟨rfl, rfl⟩)
        | (with_reducible refine (HI3.out _).mono ?_; rintro e' w' ⟨rfl, rfl⟩)
        | fail)
      go_ret
      exact ⟨by rw [HB.out]; rfl, HT1.out⟩
    | true =>
      cases p2 with
      | false =>
        have HB := HR.out
        simp at HB
        have HB := Lib.hid HB
        clear HR
        go_enter Try.func60, Try.ntmps60
        go_wp2_with fail
        rw [← HWB.out, ← HQ.out]
        refine HRT.out.mono ?_
        rintro e' w1 ⟨rfl, t1⟩
        obtain ⟨c0, c1, c2, c3, c4, c5⟩ := box_n20 (HBX.out.turn t1 (fun f => f))
        dsimp only at c0 c1 c2 c3 c4 c5
        have HT1 := Lib.hid (HTB.out.trans t1 (fun _ _ f => f))
        clear t1 HRT k0 k1
        go_wp2_with (first
          | (with_reducible refine (HI1.out _).mono ?_; rintro e' w' ⟨rfl, rfl⟩)
          | (with_reducible refine (HI2.out _).mono ?_; rintro e' w' ⟨rfl, rfl⟩)
          | (with_reducible refine (HI3.out _).mono ?_; rintro e' w' ⟨rfl, rfl⟩)
          | fail)
        go_ret
        exact ⟨by rw [HB.out]; rfl, HT1.out⟩
      | true =>
        cases p3 with
        | false =>
          have HB := HR.out
          simp at HB
          have HB := Lib.hid HB
          clear HR
          go_enter Try.func60, Try.ntmps60
          go_wp2_with fail
          rw [← HWB.out, ← HQ.out]
          refine HRT.out.mono ?_
          rintro e' w1 ⟨rfl, t1⟩
          obtain ⟨c0, c1, c2, c3, c4, c5⟩ := box_n20 (HBX.out.turn t1 (fun f => f))
          dsimp only at c0 c1 c2 c3 c4 c5
          have HT1 := Lib.hid (HTB.out.trans t1 (fun _ _ f => f))
          clear t1 HRT k0 k1
          go_wp2_with (first
            | (with_reducible refine (HI1.out _).mono ?_; rintro e' w' ⟨rfl, rfl⟩)
            | (with_reducible refine (HI2.out _).mono ?_; rintro e' w' ⟨rfl, rfl⟩)
            | (with_reducible refine (HI3.out _).mono ?_; rintro e' w' ⟨rfl, rfl⟩)
            | fail)
          go_ret
          exact ⟨by rw [HB.out]; rfl, HT1.out⟩
        | true =>
          cases cold with
          | false =>
            have HB := HR.out
            simp at HB
            have HB := Lib.hid HB
            clear HR
            go_enter Try.func60, Try.ntmps60
            go_wp2_with fail
            rw [← HWB.out, ← HQ.out]
            refine HRT.out.mono ?_
            rintro e' w1 ⟨rfl, t1⟩
            obtain ⟨c0, c1, c2, c3, c4, c5⟩ := box_n20 (HBX.out.turn t1 (fun f => f))
            dsimp only at c0 c1 c2 c3 c4 c5
            have HT1 := Lib.hid (HTB.out.trans t1 (fun _ _ f => f))
            clear t1 HRT k0 k1
            go_wp2_with (first
              | (with_reducible refine (HI1.out _).mono ?_; rintro e' w' ⟨rfl, rfl⟩)
              | (with_reducible refine (HI2.out _).mono ?_; rintro e' w' ⟨rfl, rfl⟩)
              | (with_reducible refine (HI3.out _).mono ?_; rintro e' w' ⟨rfl, rfl⟩)
              | fail)
            go_ret
            exact ⟨by rw [HB.out]; rfl, HT1.out⟩
          | true =>
            by_cases h3 : t = 3
            · subst h3
              have HB := HR.out
              simp at HB
              have HB := Lib.hid HB
              clear HR
              go_enter Try.func60, Try.ntmps60
              go_wp2_with fail
              rw [← HWB.out, ← HQ.out]
              refine HRT.out.mono ?_
              rintro e' w1 ⟨rfl, t1⟩
              obtain ⟨c0, c1, c2, c3, c4, c5⟩ := box_n20 (HBX.out.turn t1 (fun f => f))
              dsimp only at c0 c1 c2 c3 c4 c5
              have HT1 := Lib.hid (HTB.out.trans t1 (fun _ _ f => f))
              clear t1 HRT k0 k1
              go_wp2_with (first
                | (with_reducible refine (HI1.out _).mono ?_; rintro e' w' ⟨rfl, rfl⟩)
                | (with_reducible refine (HI2.out _).mono ?_; rintro e' w' ⟨rfl, rfl⟩)
                | (with_reducible refine (HI3.out _).mono ?_; rintro e' w' ⟨rfl, rfl⟩)
                | fail)
              go_ret
              exact ⟨by rw [HB.out]; rfl, HT1.out⟩
            · have e3 : (t == 3) = false := by rw [beq_eq_false_iff_ne]; exact h3
              have h3d : decide (t = 3) = false := decide_eq_false h3
              rw [h3d] at HR
              clear h3 h3d
              have HB := HR.out
              simp at HB
              have HB := Lib.hid HB
              clear HR
              go_enter Try.func60, Try.ntmps60
              go_wp2_with fail
              rw [← HWB.out, ← HQ.out]
              refine HRT.out.mono ?_
              rintro e' w1 ⟨rfl, t1⟩
              obtain ⟨c0, c1, c2, c3, c4, c5⟩ := box_n20 (HBX.out.turn t1 (fun f => f))
              dsimp only at c0 c1 c2 c3 c4 c5
              have HT1 := Lib.hid (HTB.out.trans t1 (fun _ _ f => f))
              clear t1 HRT k0 k1
              go_wp2_with (first
                | (with_reducible refine (HI1.out _).mono ?_; rintro e' w' ⟨rfl, rfl⟩)
                | (with_reducible refine (HI2.out _).mono ?_; rintro e' w' ⟨rfl, rfl⟩)
                | (with_reducible refine (HI3.out _).mono ?_; rintro e' w' ⟨rfl, rfl⟩)
                | fail)
              go_ret
              exact ⟨by rw [HB.out]; rfl, HT1.out⟩

set_option maxHeartbeats 4000000 in
theorem ref_same20 (a b : Value) (l : List N20) (w : World) (ha : RdE EN20 w a l) (hb : RdE EN20 w b l) (hl : l.length ≤ 1000000) :
    Calls Try.prog 14 #[a, b] w fun e w' => e = .returned (.bool true) ∧ Turn (fun _ => False) w w' := by
  have HA := Lib.hid ha; have HB := Lib.hid hb
  obtain ⟨A, c, rfl⟩ := ha.shape
  obtain ⟨B, d, rfl⟩ := hb.shape
  obtain ⟨N, hN⟩ : ∃ N, N = l.length := ⟨_, rfl⟩
  rw [← hN] at HA HB hl ⊢
  have HN := Lib.hid hN
  clear ha hb hN
  go_enter Try.func14, Try.ntmps14
  go_wp2_with fail
  go_loopw [5] (fun x5 wr => ∃ i : Nat, x5 = .int .i64 (i : Int) ∧ i ≤ N ∧ Turn (fun _ => False) w wr) (fun x5 _ => N - (intOf x5).toNat)
  case atStart => exact ⟨0, rfl, Nat.zero_le _, Turn.refl _ _⟩
  case round =>
    obtain ⟨i, rfl, hi, ht⟩ := hrel
    have HT := Lib.hid ht
    clear ht
    by_cases hlt : i < N
    · have hil : (i : Int) < N := by omega
      obtain ⟨e, he⟩ : ∃ e, l[i]? = some e := ⟨_, List.getElem?_eq_getElem (by rw [← HN.out]; exact hlt)⟩
      obtain ⟨ad, rfl, hc⟩ := ent_at20 HA.out he
      obtain ⟨bd, rfl, hd⟩ := ent_at20 HB.out he
      obtain ⟨a0, a1, a2, a3, a4, a5⟩ := hc wr HT.out
      obtain ⟨b0, b1, b2, b3, b4, b5⟩ := hd wr HT.out
      have HCA := Lib.hid hc; have HCB := Lib.hid hd
      have hneq : ∀ W, Sem.run Try.prog (binOp .neq 32 (ev20 e) (ev20 e)) W = .ok (.bool false) W := fun W => (run_neq_ent20 e e W).trans (by rw [eqN_iff.2 rfl]; rfl)
      clear he hc hd
      go_wp2_with fail
      go_quiet (fail)
      go_wp2
      go_roundw
      case rel => exact ⟨i + 1, by go_num, hlt, HT.out.drewN _⟩
      case measure => simp [intOf]; omega
    · obtain rfl : i = N := by omega
      go_wp2
      go_ret
      exact ⟨rfl, HT.out⟩

end Go.Proofs.Ytgbphkbbedkepaa

/-
  Stage 20: the document's At, Get, Over, drop.
-/
namespace Go.Proofs.Ytgbphkbbedkepaa
open Go.RowKit

set_option maxRecDepth 100000

theorem find_at20 {P : N20 → Bool} {l : List N20} {i : Nat} {e : N20} (ha : ∀ x ∈ l.take i, P x = false) (he : l[i]? = some e) (hp : P e = true) : l.find? P = some e := by
  obtain ⟨h0, e1⟩ := List.getElem?_eq_some_iff.1 he
  have h1 : l = l.take i ++ e :: l.drop (i + 1) := by
    conv => lhs; rw [← List.take_append_drop i l, List.drop_eq_getElem_cons h0, e1]
  rw [h1, List.find?_append, List.find?_eq_none.2 (fun x hx => by rw [ha x hx]; decide), List.find?_cons_of_pos hp]
  rfl
theorem find_no20 {P : N20 → Bool} {l : List N20} (ha : ∀ x ∈ l.take l.length, P x = false) : l.find? P = none := by
  rw [List.take_length] at ha
  exact List.find?_eq_none.2 (fun x hx => by rw [ha x hx]; decide)
theorem take_all20 {α : Type} {l : List α} {Q : α → Prop} {i : Nat} {x : α} (h : ∀ g ∈ l.take i, Q g) (hx : l[i]? = some x) (hq : Q x) : ∀ g ∈ l.take (i + 1), Q g := fun g hg => by
  obtain ⟨h0, e⟩ := List.getElem?_eq_some_iff.1 hx
  rw [List.take_succ_eq_append_getElem h0, e] at hg
  rcases List.mem_append.1 hg with hg | hg
  · exact h g hg
  · rw [List.mem_singleton.1 hg]; exact hq
theorem take_filter20 {α : Type} {l : List α} {P : α → Bool} {k : Nat} {x : α} (h : l[k]? = some x) : (l.take (k + 1)).filter P = (l.take k).filter P ++ (if P x then [x] else []) := by
  obtain ⟨h0, e⟩ := List.getElem?_eq_some_iff.1 h
  rw [List.take_succ_eq_append_getElem h0, e, List.filter_append]
  congr 1
  by_cases hp : P x = true
  · rw [if_pos hp]; simp [hp]
  · rw [if_neg hp]; simp [hp]
/-- An entry stored whole into a result's box. -/
theorem ent_set20 {w W : World} {r : Nat} {t : TypeId} {b : N20} (hb : Box W r t (ecells20 b)) (ht : Turn (fun _ => False) w W) (hr : w.heap.size ≤ r) (c : N20) :
    Box (W.setCells r 0 (ecells20 c).toList) r t (ecells20 c) ∧ Turn (fun _ => False) w (W.setCells r 0 (ecells20 c).toList) := by
  have h1 : Turn (fun g => g = r) W (W.setCells r 0 (ecells20 c).toList) := turn_setCells (S := fun g => g = r) rfl _ _ _
  exact ⟨hb.all _ rfl, ht.trans h1 (fun k hk e => by omega)⟩
/-- Behind a look at one entry. -/
def Look20 (w : World) (r : N20 × Bool) (e : Ending) (w' : World) : Prop := e = .returned (.tuple #[ev20 r.1, .bool r.2]) ∧ Turn (fun _ => False) w w'

set_option maxHeartbeats 4000000 in
theorem ref_at20 (v : Value) (l : List N20) (h : Int) (w : World) (hv : RdE EN20 w v l) (hl : l.length ≤ 1000000) : Calls Try.prog 11 #[v, .int .i64 h] w fun e w' => Look20 w (at20 l h) e w' := by
  have HV := Lib.hid hv
  obtain ⟨A, c, rfl⟩ := hv.shape
  obtain ⟨N, hN⟩ : ∃ N, N = l.length := ⟨_, rfl⟩
  rw [← hN] at HV hl ⊢
  have HN := Lib.hid hN
  obtain ⟨wb, hwb⟩ : ∃ wb, wb = w.alloc (.cells (ecells20 zero20) 32) := ⟨_, rfl⟩
  obtain ⟨q, hq⟩ : ∃ q, q = w.heap.size := ⟨_, rfl⟩
  have HTB : Hid (Turn (fun _ => False) w wb) := by rw [hwb]; exact (Turn.refl _ w).alloc _
  have HBX : Hid (Box wb q 32 (ecells20 zero20)) := by rw [hwb, hq]; exact Box.new w _ _
  have HLQ : Hid (w.heap.size ≤ q) := Nat.le_of_eq hq.symm
  have HWB := Lib.hid hwb; have HQ := Lib.hid hq
  clear hv hN hwb hq
  go_enter Try.func11, Try.ntmps11
  go_wp2_with fail
  rw [show (w.alloc (.cells #[.int .i64 0, .int .i64 0, .int .i64 0, .int .i64 0, .int .i64 0, .bool false] 32)) = wb from HWB.out.symm, ← HQ.out]
  go_loopw [6] (fun x6 wr => ∃ i : Nat, x6 = .int .i64 (i : Int) ∧ i ≤ N ∧ (∀ e ∈ l.take i, has19 e.p h = false) ∧ Turn (fun _ => False) wb wr) (fun x6 _ => N - (intOf x6).toNat)
  case atStart => exact ⟨0, rfl, Nat.zero_le _, (fun g hg => by cases hg), Turn.refl _ _⟩
  case round =>
    obtain ⟨i, rfl, hi, ha, ht⟩ := hrel
    have HA := Lib.hid ha; have HT := Lib.hid ht
    clear ha ht
    by_cases hlt : i < N
    · have hil : (i : Int) < N := by omega
      obtain ⟨e, he⟩ : ∃ e, l[i]? = some e := ⟨_, List.getElem?_eq_getElem (by rw [← HN.out]; exact hlt)⟩
      obtain ⟨ad, rfl, hc⟩ := ent_at20 HV.out he
      obtain ⟨a0, a1, a2, a3, a4, a5⟩ := hc wr (HTB.out.trans HT.out (fun _ _ f => f))
      have HC := Lib.hid hc; have HE := Lib.hid he
      clear he hc
      go_wp2_with fail
      refine (ref_has19 e.p h wr).mono ?_
      rintro e' w2 ⟨rfl, t2⟩
      have HT2 := Lib.hid (HT.out.trans t2 (fun _ _ f => f))
      clear t2 a0 a1 a2 a3 a4 a5
      cases hp : has19 e.p h with
      | true =>
        have HD : Hid (at20 l h = (e, true)) := by show _ = _; unfold at20; rw [find_at20 HA.out HE.out hp]
        obtain ⟨a0, a1, a2, a3, a4, a5⟩ := HC.out w2 (HTB.out.trans HT2.out (fun _ _ f => f))
        have hbx := HBX.out.turn HT2.out (fun f => f)
        obtain ⟨d0, d1, d2, d3, d4, d5⟩ := box_n20 hbx
        have z0 := hbx.free 0; have z1 := hbx.free 1; have z2 := hbx.free 2; have z3 := hbx.free 3; have z4 := hbx.free 4; have z5 := hbx.free 5
        have HST := Lib.hid (ent_set20 hbx (HTB.out.trans HT2.out (fun _ _ f => f)) HLQ.out e)
        clear hp hbx
        go_wp2_with fail
        refine bodyPost_ret (v := .tuple #[ev20 e, .bool true]) ?_ rfl ⟨by rw [HD.out], HST.out.2⟩
        rw [results_cell_tmp rfl]
        go_simp
      | false =>
        have HP := Lib.hid hp
        clear hp
        go_wp2
        go_roundw
        case rel => exact ⟨i + 1, by go_num, hlt, take_all20 HA.out HE.out HP.out, HT2.out⟩
        case measure => simp [intOf]; omega
    · obtain rfl : i = N := by omega
      have HD : Hid (at20 l h = (zero20, false)) := by show _ = _; unfold at20; rw [find_no20 (by rw [← HN.out]; exact HA.out)]
      have hbx := HBX.out.turn HT.out (fun f => f)
      obtain ⟨d0, d1, d2, d3, d4, d5⟩ := box_n20 hbx
      have z0 := hbx.free 0; have z1 := hbx.free 1; have z2 := hbx.free 2; have z3 := hbx.free 3; have z4 := hbx.free 4; have z5 := hbx.free 5
      have HST := Lib.hid (ent_set20 hbx (HTB.out.trans HT.out (fun _ _ f => f)) HLQ.out zero20)
      clear hbx
      go_wp2_with fail
      refine bodyPost_ret (v := .tuple #[ev20 zero20, .bool false]) ?_ rfl ⟨by rw [HD.out], HST.out.2⟩
      rw [results_cell_tmp rfl]
      go_simp
      exact ⟨rfl, rfl, rfl, rfl, rfl, rfl⟩

set_option maxHeartbeats 4000000 in
theorem ref_get20 (v : Value) (l : List N20) (p : T19) (w : World) (hv : RdE EN20 w v l) (hl : l.length ≤ 1000000) : Calls Try.prog 13 #[v, tv19 p] w fun e w' => Look20 w (get20 l p) e w' := by
  have HV := Lib.hid hv
  obtain ⟨A, c, rfl⟩ := hv.shape
  obtain ⟨N, hN⟩ : ∃ N, N = l.length := ⟨_, rfl⟩
  rw [← hN] at HV hl ⊢
  have HN := Lib.hid hN
  obtain ⟨wb, hwb⟩ : ∃ wb, wb = (w.alloc (.cells (tcells19 p) 24)).alloc (.cells (ecells20 zero20) 32) := ⟨_, rfl⟩
  obtain ⟨g, hg⟩ : ∃ g, g = w.heap.size := ⟨_, rfl⟩
  obtain ⟨q, hq⟩ : ∃ q, q = w.heap.size + 1 := ⟨_, rfl⟩
  have HTB : Hid (Turn (fun _ => False) w wb) := by rw [hwb]; exact ((Turn.refl _ w).alloc _).alloc _
  have HBP : Hid (Box wb g 24 (tcells19 p)) := by rw [hwb, hg]; exact (Box.new w _ _).alloc _
  have HBX : Hid (Box wb q 32 (ecells20 zero20)) := by
    have h := Box.new (w.alloc (.cells (tcells19 p) 24)) 32 (ecells20 zero20)
    rw [World.size_alloc] at h
    rw [hwb, hq]; exact h
  have HLQ : Hid (w.heap.size ≤ q) := by show _ ≤ _; omega
  have HWB := Lib.hid hwb; have HQ := Lib.hid hq; have HG := Lib.hid hg
  clear hv hN hwb hq hg
  go_enter Try.func13, Try.ntmps13
  go_wp2_with fail
  rw [show ((w.alloc (.cells (tcells19 p) 24)).alloc (.cells #[.int .i64 0, .int .i64 0, .int .i64 0, .int .i64 0, .int .i64 0, .bool false] 32)) = wb from HWB.out.symm, ← HQ.out, ← HG.out]
  go_loopw [6] (fun x6 wr => ∃ i : Nat, x6 = .int .i64 (i : Int) ∧ i ≤ N ∧ (∀ e ∈ l.take i, eqT e.p p = false) ∧ Turn (fun _ => False) wb wr) (fun x6 _ => N - (intOf x6).toNat)
  case atStart => exact ⟨0, rfl, Nat.zero_le _, (fun g hg => by cases hg), Turn.refl _ _⟩
  case round =>
    obtain ⟨i, rfl, hi, ha, ht⟩ := hrel
    have HA := Lib.hid ha; have HT := Lib.hid ht
    clear ha ht
    by_cases hlt : i < N
    · have hil : (i : Int) < N := by omega
      obtain ⟨e, he⟩ : ∃ e, l[i]? = some e := ⟨_, List.getElem?_eq_getElem (by rw [← HN.out]; exact hlt)⟩
      obtain ⟨ad, rfl, hc⟩ := ent_at20 HV.out he
      obtain ⟨a0, a1, a2, a3, a4, a5⟩ := hc wr (HTB.out.trans HT.out (fun _ _ f => f))
      obtain ⟨b0, b1⟩ := box_t19 (HBP.out.turn HT.out (fun f => f))
      have HC := Lib.hid hc; have HE := Lib.hid he
      obtain ⟨b, hb⟩ : ∃ b, b = eqT e.p p := ⟨_, rfl⟩
      have heq : ∀ W, Sem.run Try.prog (binOp .eql 24 (tv19 e.p) (tv19 p)) W = .ok (.bool b) W := fun W => by rw [hb]; exact run_eql_part20 e.p p W
      have HB := Lib.hid hb
      clear he hc hb
      go_wp2_with fail
      go_quiet (fail)
      have HT2 := Lib.hid (HT.out.drewN nq)
      clear a0 a1 a2 a3 a4 a5 b0 b1
      cases b with
      | true =>
        have HD : Hid (get20 l p = (e, true)) := by show _ = _; unfold get20; rw [find_at20 HA.out HE.out HB.out.symm]
        obtain ⟨a0, a1, a2, a3, a4, a5⟩ := HC.out (wr.drewN nq) (HTB.out.trans HT2.out (fun _ _ f => f))
        have hbx := HBX.out.turn HT2.out (fun f => f)
        obtain ⟨d0, d1, d2, d3, d4, d5⟩ := box_n20 hbx
        have z0 := hbx.free 0; have z1 := hbx.free 1; have z2 := hbx.free 2; have z3 := hbx.free 3; have z4 := hbx.free 4; have z5 := hbx.free 5
        have HST := Lib.hid (ent_set20 hbx (HTB.out.trans HT2.out (fun _ _ f => f)) HLQ.out e)
        clear hbx
        go_wp2_with fail
        refine bodyPost_ret (v := .tuple #[ev20 e, .bool true]) ?_ rfl ⟨by rw [HD.out], HST.out.2⟩
        rw [results_cell_tmp rfl]
        go_simp
      | false =>
        go_wp2
        go_roundw
        case rel => exact ⟨i + 1, by go_num, hlt, take_all20 HA.out HE.out HB.out.symm, HT2.out⟩
        case measure => simp [intOf]; omega
    · obtain rfl : i = N := by omega
      have HD : Hid (get20 l p = (zero20, false)) := by show _ = _; unfold get20; rw [find_no20 (by rw [← HN.out]; exact HA.out)]
      have hbx := HBX.out.turn HT.out (fun f => f)
      obtain ⟨d0, d1, d2, d3, d4, d5⟩ := box_n20 hbx
      have z0 := hbx.free 0; have z1 := hbx.free 1; have z2 := hbx.free 2; have z3 := hbx.free 3; have z4 := hbx.free 4; have z5 := hbx.free 5
      have HST := Lib.hid (ent_set20 hbx (HTB.out.trans HT.out (fun _ _ f => f)) HLQ.out zero20)
      clear hbx
      go_wp2_with fail
      refine bodyPost_ret (v := .tuple #[ev20 zero20, .bool false]) ?_ rfl ⟨by rw [HD.out], HST.out.2⟩
      rw [results_cell_tmp rfl]
      go_simp
      exact ⟨rfl, rfl, rfl, rfl, rfl, rfl⟩

/-- Behind a list of entries. -/
def Ents20 (w : World) (l : List N20) (e : Ending) (w' : World) : Prop := ∃ v, e = .returned v ∧ RdE EN20 w' v l ∧ Turn (fun _ => False) w w' ∧ ∀ k, v.ownBlock = some k → w.heap.size ≤ k
theorem wpList_ents20 (w : World) {ops : Array Oper} {rest : List Oper} {o : Oper} {a : Act} {Q : Exit → Act → World → Prop} (hgd : o.guard = none) (s x : Operand)
    (ho : o.op = .call { callee := .builtin .append, args := #[s, x], argTypes := #[28, 28] }) (v : Value) (l : List N20) (hs : a.eval s = v) (hown : OwE EN20 32 w v l)
    (y : Value) (hx : a.eval x = y) (m : List N20) (hy : RdE EN20 w y m) (hl : l.length + m.length ≤ 1000000)
    (h : ∀ A n c w', OwE EN20 32 w' (.slice A n c) (l ++ m) → Turn (fun k => v.ownBlock = some k) w w' → ((Value.slice A n c).ownBlock = v.ownBlock ∨ (Value.slice A n c).ownBlock = some w.heap.size) → wpList Try.prog ops Q rest (a.put o.dst (.slice A n c)) w') :
    wpList Try.prog ops Q (o :: rest) a w :=
  wpList_appE Try.underlying28 ent_info20 ent_zero20 w hgd s x _ ho v l hs hown y hx m (hy.src Try.underlying28) (by simp only [maxLen]; omega) (by omega) h

set_option maxHeartbeats 4000000 in
theorem ref_over20 (v : Value) (l : List N20) (lo hi : Int) (w : World) (hv : RdE EN20 w v l) (hl : l.length ≤ 900000) : Calls Try.prog 16 #[v, .int .i64 lo, .int .i64 hi] w fun e w' => Ents20 w (over20 l lo hi) e w' := by
  have HV := Lib.hid hv
  obtain ⟨A, c, rfl⟩ := hv.shape
  obtain ⟨N, hN⟩ : ∃ N, N = l.length := ⟨_, rfl⟩
  rw [← hN] at HV hl ⊢
  have HN := Lib.hid hN
  clear hv hN
  have HE0 : Hid (([] : List N20) = (l.take 0).filter fun e => decide (max (span19 e.p).1 lo < min (span19 e.p).2 hi)) := rfl
  go_enter Try.func16, Try.ntmps16
  go_wp2_with fail
  go_loopw [7, 8] (fun x7 x8 wr => ∃ (i : Nat) (out : List N20), x8 = .int .i64 (i : Int) ∧ i ≤ N ∧ out.length ≤ i ∧ NewE EN20 32 w wr x7 out ∧ out = (l.take i).filter fun e => decide (max (span19 e.p).1 lo < min (span19 e.p).2 hi)) (fun _ x8 _ => N - (intOf x8).toNat)
  case atStart => exact ⟨0, [], rfl, Nat.zero_le _, Nat.le_refl _, ⟨OwE.nil _, (fun k e => by simp [Value.ownBlock] at e), Turn.refl _ _⟩, HE0.out⟩
  case round =>
    obtain ⟨i, out, rfl, hi', hlo, hnew, hsp⟩ := hrel
    have HNW := Lib.hid hnew; have HSP := Lib.hid hsp; have HLO := Lib.hid hlo
    obtain ⟨A7, c7, rfl⟩ := hnew.own.shape
    clear hnew hsp hlo HE0
    by_cases hlt : i < N
    · have hil : (i : Int) < N := by omega
      obtain ⟨e, he⟩ : ∃ e, l[i]? = some e := ⟨_, List.getElem?_eq_getElem (by rw [← HN.out]; exact hlt)⟩
      obtain ⟨ad, rfl, hc⟩ := ent_at20 HV.out he
      obtain ⟨a0, a1, a2, a3, a4, a5⟩ := hc wr HNW.out.turn
      have HC := Lib.hid hc
      have HTK := Lib.hid (take_filter20 (P := fun e : N20 => decide (max (span19 e.p).1 lo < min (span19 e.p).2 hi)) he)
      clear he hc
      go_wp2_with fail
      refine (ref_span19 e.p wr).mono ?_
      rintro e' w2 ⟨rfl, t2⟩
      have HN2 := Lib.hid (HNW.out.later t2)
      clear t2 a0 a1 a2 a3 a4 a5
      generalize (span19 e.p).1 = s1 at *
      generalize (span19 e.p).2 = s2 at *
      obtain ⟨m1, hm1⟩ : ∃ m1, max s1 lo = m1 := ⟨_, rfl⟩
      obtain ⟨m2, hm2⟩ : ∃ m2, min s2 hi = m2 := ⟨_, rfl⟩
      rw [hm1, hm2] at HTK
      by_cases hin : m1 < m2
      · have HX : Hid (out ++ [e] = (l.take (i + 1)).filter fun e => decide (max (span19 e.p).1 lo < min (span19 e.p).2 hi)) := by
          show _ = _
          rw [HTK.out, if_pos (decide_eq_true hin), HSP.out]
        obtain ⟨a0, a1, a2, a3, a4, a5⟩ := HC.out w2 HN2.out.turn
        have HN7 := Lib.hid (HN2.out.alloc (.cells (EN20.enc e).toArray 32))
        have HSR := Lib.hid (one_row EN20 32 w2 e)
        have HLM : Hid (out.length + 1 ≤ 1000000) := by show _ ≤ _; have := HLO.out; omega
        go_wp2_with (at_builtin; refine wpList_ents20 _ rfl _ _ rfl _ _ rfl HN7.out.own _ rfl [e] HSR.out HLM.out ?_; intro A5 n5 c5 w5 ho5 ht5 hn5; have HN5 := Lib.hid (HN7.out.step ho5 ht5 hn5); clear ho5 ht5 hn5)
        go_roundw
        case rel => exact ⟨i + 1, _, by go_num, hlt, by rw [List.length_append, List.length_singleton]; have := HLO.out; omega, HN5.out, HX.out⟩
        case measure => simp [intOf]; omega
      · have HX : Hid (out = (l.take (i + 1)).filter fun e => decide (max (span19 e.p).1 lo < min (span19 e.p).2 hi)) := by
          show _ = _
          rw [HTK.out, if_neg (by rw [decide_eq_true_iff]; exact hin), List.append_nil, HSP.out]
        go_wp2
        go_roundw
        case rel => exact ⟨i + 1, _, by go_num, hlt, by have := HLO.out; omega, HN2.out, HX.out⟩
        case measure => simp [intOf]; omega
    · obtain rfl : i = N := by omega
      have HX : Hid (out = over20 l lo hi) := by
        show _ = _
        rw [HSP.out, List.take_of_length_le (Nat.le_of_eq HN.out.symm)]
        rfl
      go_wp2
      go_ret
      exact ⟨_, rfl, by rw [← HX.out]; exact HNW.out.own.rd, HNW.out.turn, HNW.out.new⟩

/-- Behind drop. -/
def Dropped20 (w : World) (r : List N20 × Bool) (e : Ending) (w' : World) : Prop := ∃ v, e = .returned (.tuple #[v, .bool r.2]) ∧ RdE EN20 w' v r.1 ∧ Turn (fun _ => False) w w' ∧ ∀ k, v.ownBlock = some k → w.heap.size ≤ k
set_option maxHeartbeats 4000000 in
theorem ref_drop20 (v : Value) (l : List N20) (p : T19) (w : World) (hv : RdE EN20 w v l) (hl : l.length ≤ 900000) : Calls Try.prog 41 #[v, tv19 p] w fun e w' => Dropped20 w (drop20 l p) e w' := by
  have HV := Lib.hid hv
  obtain ⟨A, c, rfl⟩ := hv.shape
  obtain ⟨N, hN⟩ : ∃ N, N = l.length := ⟨_, rfl⟩
  rw [← hN] at HV hl ⊢
  have HN := Lib.hid hN
  obtain ⟨wb, hwb⟩ : ∃ wb, wb = w.alloc (.cells (tcells19 p) 24) := ⟨_, rfl⟩
  obtain ⟨g, hg⟩ : ∃ g, g = w.heap.size := ⟨_, rfl⟩
  have HTB : Hid (Turn (fun _ => False) w wb) := by rw [hwb]; exact (Turn.refl _ w).alloc _
  have HBP : Hid (Box wb g 24 (tcells19 p)) := by rw [hwb, hg]; exact Box.new w _ _
  have HWB := Lib.hid hwb; have HG := Lib.hid hg
  have HE0 : Hid (([] : List N20) = (l.take 0).filter (fun e => !eqT e.p p) ∧ false = (l.take 0).any fun e => eqT e.p p) := ⟨rfl, rfl⟩
  clear hv hN hwb hg
  go_enter Try.func41, Try.ntmps41
  go_wp2_with fail
  rw [← HWB.out, ← HG.out]
  go_loopw [6, 7, 8] (fun x6 x7 x8 wr => ∃ (i : Nat) (out : List N20) (b : Bool), x8 = .int .i64 (i : Int) ∧ x7 = .bool b ∧ i ≤ N ∧ out.length ≤ i ∧ NewE EN20 32 wb wr x6 out ∧ out = (l.take i).filter (fun e => !eqT e.p p) ∧ b = (l.take i).any fun e => eqT e.p p) (fun _ _ x8 _ => N - (intOf x8).toNat)
  case atStart => exact ⟨0, [], false, rfl, rfl, Nat.zero_le _, Nat.le_refl _, ⟨OwE.nil _, (fun k e => by simp [Value.ownBlock] at e), Turn.refl _ _⟩, HE0.out.1, HE0.out.2⟩
  case round =>
    obtain ⟨i, out, b, rfl, rfl, hi', hlo, hnew, hsp, hsb⟩ := hrel
    have HNW := Lib.hid hnew; have HSP := Lib.hid hsp; have HLO := Lib.hid hlo; have HSB := Lib.hid hsb
    obtain ⟨A7, c7, rfl⟩ := hnew.own.shape
    clear hnew hsp hlo hsb HE0
    by_cases hlt : i < N
    · have hil : (i : Int) < N := by omega
      obtain ⟨e, he⟩ : ∃ e, l[i]? = some e := ⟨_, List.getElem?_eq_getElem (by rw [← HN.out]; exact hlt)⟩
      obtain ⟨ad, rfl, hc⟩ := ent_at20 HV.out he
      obtain ⟨a0, a1, a2, a3, a4, a5⟩ := hc wr (HTB.out.trans HNW.out.turn (fun _ _ f => f))
      obtain ⟨b0, b1⟩ := box_t19 (HBP.out.turn HNW.out.turn (fun f => f))
      have HC := Lib.hid hc
      have HTK := Lib.hid (take_filter20 (P := fun e : N20 => !eqT e.p p) he)
      have HTA : Hid ((l.take (i + 1)).any (fun e => eqT e.p p) = ((l.take i).any (fun e => eqT e.p p) || eqT e.p p)) := by
        show _ = _
        obtain ⟨h0, e1⟩ := List.getElem?_eq_some_iff.1 he
        rw [List.take_succ_eq_append_getElem h0, e1, List.any_append]
        simp
      obtain ⟨q, hq⟩ : ∃ q, q = eqT e.p p := ⟨_, rfl⟩
      have heq : ∀ W, Sem.run Try.prog (binOp .eql 24 (tv19 e.p) (tv19 p)) W = .ok (.bool q) W := fun W => by rw [hq]; exact run_eql_part20 e.p p W
      rw [← hq] at HTK HTA
      clear he hc hq
      go_wp2_with fail
      go_quiet (fail)
      have HN2 := Lib.hid (HNW.out.later ((Turn.refl (fun _ => False) wr).drewN nq))
      clear a0 a1 a2 a3 a4 a5 b0 b1
      cases q with
      | true =>
        have HX : Hid (out = (l.take (i + 1)).filter fun e => !eqT e.p p) := by
          show _ = _
          rw [HTK.out, if_neg (by decide), List.append_nil, HSP.out]
        have HY : Hid (true = (l.take (i + 1)).any fun e => eqT e.p p) := by
          show _ = _
          rw [HTA.out, Bool.or_true]
        go_wp2
        go_roundw
        case rel => exact ⟨i + 1, _, _, by go_num, rfl, hlt, by have := HLO.out; omega, HN2.out, HX.out, HY.out⟩
        case measure => simp [intOf]; omega
      | false =>
        have HX : Hid (out ++ [e] = (l.take (i + 1)).filter fun e => !eqT e.p p) := by
          show _ = _
          rw [HTK.out, if_pos (by decide), HSP.out]
        have HY : Hid (b = (l.take (i + 1)).any fun e => eqT e.p p) := by
          show _ = _
          rw [HTA.out, Bool.or_false, HSB.out]
        obtain ⟨a0, a1, a2, a3, a4, a5⟩ := HC.out (wr.drewN nq) (HTB.out.trans HN2.out.turn (fun _ _ f => f))
        have HN7 := Lib.hid (HN2.out.alloc (.cells (EN20.enc e).toArray 32))
        have HSR := Lib.hid (one_row EN20 32 (wr.drewN nq) e)
        have HLM : Hid (out.length + 1 ≤ 1000000) := by show _ ≤ _; have := HLO.out; omega
        go_wp2_with (at_builtin; refine wpList_ents20 _ rfl _ _ rfl _ _ rfl HN7.out.own _ rfl [e] HSR.out HLM.out ?_; intro A5 n5 c5 w5 ho5 ht5 hn5; have HN5 := Lib.hid (HN7.out.step ho5 ht5 hn5); clear ho5 ht5 hn5)
        go_roundw
        case rel => exact ⟨i + 1, _, _, by go_num, rfl, hlt, by rw [List.length_append, List.length_singleton]; have := HLO.out; omega, HN5.out, HX.out, HY.out⟩
        case measure => simp [intOf]; omega
    · obtain rfl : i = N := by omega
      have HX : Hid (out = (drop20 l p).1 ∧ b = (drop20 l p).2) := by
        show _ ∧ _
        rw [HSP.out, HSB.out, List.take_of_length_le (Nat.le_of_eq HN.out.symm)]
        exact ⟨rfl, rfl⟩
      go_wp2
      go_ret2
      exact ⟨_, by rw [← HX.out.2]; rfl, by rw [← HX.out.1]; exact HNW.out.own.rd, HTB.out.trans HNW.out.turn (fun _ _ f => f), fun k hk => Nat.le_trans HTB.out.size (HNW.out.new k hk)⟩

end Go.Proofs.Ytgbphkbbedkepaa

/-
  Stage 20: the document's put, Apply.
-/
namespace Go.Proofs.Ytgbphkbbedkepaa
open Go.RowKit

set_option maxRecDepth 100000

/-- Behind put, and behind Apply. -/
def Putted20 (w : World) (r : List N20 × Int) (e : Ending) (w' : World) : Prop := ∃ v, e = .returned (.tuple #[v, .int .i64 r.2]) ∧ RdE EN20 w' v r.1 ∧ Turn (fun _ => False) w w' ∧ ∀ k, v.ownBlock = some k → w.heap.size ≤ k
theorem drop_at20 {α : Type} {xs : List α} {i : Nat} {x : α} (h : xs[i]? = some x) : xs.drop i = x :: xs.drop (i + 1) := by
  obtain ⟨h0, e⟩ := List.getElem?_eq_some_iff.1 h
  rw [List.drop_eq_getElem_cons h0, e]

set_option maxHeartbeats 8000000 in
theorem ref_put20 (v : Value) (l : List N20) (e : N20) (w : World) (hv : RdE EN20 w v l) (hl : l.length ≤ 900000) : Calls Try.prog 42 #[v, ev20 e] w fun e' w' => Putted20 w (put20 l e) e' w' := by
  have HV := Lib.hid hv
  obtain ⟨A, c, rfl⟩ := hv.shape
  have hcap : l.length ≤ c := hv.fits.2.1
  obtain ⟨N, hN⟩ : ∃ N, N = l.length := ⟨_, rfl⟩
  rw [← hN] at HV hl hcap ⊢
  have HN := Lib.hid hN
  obtain ⟨wb, hwb⟩ : ∃ wb, wb = w.alloc (.cells (ecells20 e) 32) := ⟨_, rfl⟩
  obtain ⟨g, hg⟩ : ∃ g, g = w.heap.size := ⟨_, rfl⟩
  have HTB : Hid (Turn (fun _ => False) w wb) := by rw [hwb]; exact (Turn.refl _ w).alloc _
  have HBE : Hid (Box wb g 32 (ecells20 e)) := by rw [hwb, hg]; exact Box.new w _ _
  obtain ⟨k0, k1, k2, k3, k4, k5⟩ := box_n20 (Box.new w 32 (ecells20 e))
  have HWB := Lib.hid hwb; have HG := Lib.hid hg
  have HRT := Lib.hid (ref_right20 e wb)
  have hE : ∀ W, (Instr.buildSlice 28 0 #[]).run Try.prog W = .ok (.slice (some ⟨W.heap.size, 0, none⟩) 0 0) (W.alloc (.cells #[] 32)) := fun W => by go_simp
  have hX : ∀ W, (Instr.buildSlice 28 1 #[(0, ev20 e)]).run Try.prog W = .ok (.slice (some ⟨W.heap.size, 0, none⟩) 1 1) (W.alloc (.cells (EN20.enc e).toArray 32)) := fun W => by go_simp; rfl
  have HE := Lib.hid hE; have HX := Lib.hid hX
  have HZ := Lib.hid ent_size20
  have hcm : c ≤ 9223372036854775807 := by have h := hv.fits.2.2.1; unfold maxLen at h; exact h
  clear hv hN hwb hg hE hX
  cases hr : right20 e with
  | false =>
    have HD : Hid (put20 l e = ([], 4)) := by show _ = _; unfold put20; rw [if_pos hr]
    rw [hr] at HRT
    clear hr
    go_enter Try.func42, Try.ntmps42
    go_wp2_with fail
    rw [← HWB.out]
    refine HRT.out.mono ?_
    rintro e' w1 ⟨rfl, t1⟩
    have HT1 := Lib.hid (HTB.out.trans t1 (fun _ _ f => f))
    clear t1 k0 k1 k2 k3 k4 k5
    go_wp2
    go_ret2
    exact ⟨.slice none 0 0, by rw [HD.out]; rfl, by rw [HD.out]; exact RdE.nil _, HT1.out, fun k hk => by cases hk⟩
  | true =>
    have HPU : Hid (put20 l e = if (l.any fun x => meets19 x.p e.p) = true then ([], 12) else (ins20 l e, 0)) := by show _ = _; unfold put20; rw [if_neg (by rw [hr]; decide)]
    rw [hr] at HRT
    clear hr
    go_enter Try.func42, Try.ntmps42
    go_wp2_with fail
    rw [← HWB.out, ← HG.out]
    refine HRT.out.mono ?_
    rintro e' w1 ⟨rfl, t1⟩
    have HT1 := Lib.hid t1
    clear t1 k0 k1 k2 k3 k4 k5 HRT
    go_wp2_with fail
    have HP0 : Hid (pos20 e.p 0 0 l = pos20 e.p 0 0 (l.drop 0)) := rfl
    go_loopw [6, 7] (fun x6 x7 wr => ∃ i k : Nat, x6 = .int .i64 (k : Int) ∧ x7 = .int .i64 (i : Int) ∧ i ≤ N ∧ k ≤ i ∧ (∀ x ∈ l.take i, meets19 x.p e.p = false) ∧ pos20 e.p 0 0 l = pos20 e.p i k (l.drop i) ∧ Turn (fun _ => False) wb wr) (fun _ x7 _ => N - (intOf x7).toNat)
    case atStart => exact ⟨0, 0, rfl, rfl, Nat.zero_le _, Nat.le_refl _, (fun g hg => by cases hg), HP0.out, HT1.out⟩
    case round =>
      clear HP0 HT1
      obtain ⟨i, k, rfl, rfl, hi, hk, ha, hp, ht⟩ := hrel
      have HA := Lib.hid ha; have HT := Lib.hid ht; have HP := Lib.hid hp
      clear ha ht hp
      by_cases hlt : i < N
      · have hil : (i : Int) < N := by omega
        obtain ⟨y, hy⟩ : ∃ y, l[i]? = some y := ⟨_, List.getElem?_eq_getElem (by rw [← HN.out]; exact hlt)⟩
        obtain ⟨ad, hA, hc⟩ := ent_at20 HV.out hy
        have HC : Hid (∀ W, Turn (fun _ => False) wr W → W.cell? (ad.add (i * 6)) = some (.int .i64 y.p.t) ∧ W.cell? ⟨(ad.add (i * 6)).block, (ad.add (i * 6)).off + 1, none⟩ = some (.int .i64 y.p.i)) := fun W hW => by
          obtain ⟨a0, a1, -⟩ := hc W ((HTB.out.trans HT.out (fun _ _ f => f)).trans hW (fun _ _ f => f))
          exact ⟨a0, a1⟩
        have HB : Hid (∀ W, Turn (fun _ => False) wr W → W.cell? ⟨g, 0, none⟩ = some (.int .i64 e.p.t) ∧ W.cell? ⟨g, 1, none⟩ = some (.int .i64 e.p.i)) := fun W hW => by
          obtain ⟨a0, a1, -⟩ := box_n20 (HBE.out.turn (HT.out.trans hW (fun _ _ f => f)) (fun f => f))
          exact ⟨a0, a1⟩
        have HY := Lib.hid hy
        have HMT : Hid (∀ W, Calls Try.prog 61 #[tv19 y.p, tv19 e.p] W fun e' w' => e' = .returned (.bool (meets19 y.p e.p)) ∧ Turn (fun _ => False) W w') := fun W => ref_meets19 y.p e.p W
        have HLS : Hid (∀ W, Calls Try.prog 62 #[tv19 y.p, tv19 e.p] W fun e' w' => e' = .returned (.bool (less19 y.p e.p)) ∧ Turn (fun _ => False) W w') := fun W => ref_less19 y.p e.p W
        have HNP : Hid (pos20 e.p 0 0 l = pos20 e.p (i + 1) (if less19 y.p e.p then i + 1 else k) (l.drop (i + 1))) := by
          show _ = _
          rw [HP.out, drop_at20 hy]
          conv => lhs; unfold pos20
        subst hA
        clear hy hc
        go_wp2_with fail
        refine drawn_region (fun W => Turn (fun _ => False) wr W) [7] (by kernel_rfl) ?_
        have hS0 : Turn (fun _ => False) wr (World.drew wr) := (Turn.refl _ wr).drew
        generalize World.drew wr = wd at *
        refine drawn_take 0 17 (.slice (some ad) N c) rfl rfl (by kernel_rfl) (by kernel_rfl) (by kernel_rfl) (by kernel_rfl) (fun _ _ _ h => h) (by rfl) (by assumption) (by intro w hSw; obtain hS1 := hSw; go_simp) ?_
        try simp only [List.setIfInBounds_toArray, List.set_cons_zero, List.set_cons_succ]
        refine drawn_take 1 18 (.int .i64 (i : Int)) rfl rfl (by kernel_rfl) (by kernel_rfl) (by kernel_rfl) (by kernel_rfl) (fun _ _ _ h => h) (by rfl) (by assumption) (by intro w hSw; obtain hS1 := hSw; go_simp) ?_
        try simp only [List.setIfInBounds_toArray, List.set_cons_zero, List.set_cons_succ]
        refine drawn_take 2 19 (.pointer (some (ad.add (i * 6)))) rfl rfl (by kernel_rfl) (by kernel_rfl) (by kernel_rfl) (by kernel_rfl) (fun _ _ _ h => h) (by rfl) (by assumption) (by intro w hSw; obtain hS1 := hSw; go_simp) ?_
        try simp only [List.setIfInBounds_toArray, List.set_cons_zero, List.set_cons_succ]
        refine drawn_take 3 20 (.pointer (some (ad.add (i * 6)))) rfl rfl (by kernel_rfl) (by kernel_rfl) (by kernel_rfl) (by kernel_rfl) (fun _ _ _ h => h) (by rfl) (by assumption) (by intro w hSw; obtain hS1 := hSw; go_simp) ?_
        try simp only [List.setIfInBounds_toArray, List.set_cons_zero, List.set_cons_succ]
        refine drawn_take 4 21 (tv19 y.p) rfl rfl (by kernel_rfl) (by kernel_rfl) (by kernel_rfl) (by kernel_rfl) (fun _ _ _ h => h) (by rfl) (by assumption) (by intro w hSw; obtain ⟨b0, b1⟩ := HC.out _ hSw; clear hSw; go_simp) ?_
        try simp only [List.setIfInBounds_toArray, List.set_cons_zero, List.set_cons_succ]
        refine drawn_take 5 22 (.pointer (some ⟨g, 0, none⟩)) rfl rfl (by kernel_rfl) (by kernel_rfl) (by kernel_rfl) (by kernel_rfl) (fun _ _ _ h => h) (by rfl) (by assumption) (by intro w hSw; obtain hS1 := hSw; go_simp) ?_
        try simp only [List.setIfInBounds_toArray, List.set_cons_zero, List.set_cons_succ]
        refine drawn_take 6 23 (tv19 e.p) rfl rfl (by kernel_rfl) (by kernel_rfl) (by kernel_rfl) (by kernel_rfl) (fun _ _ _ h => h) (by rfl) (by assumption) (by intro w hSw; obtain ⟨b0, b1⟩ := HB.out _ hSw; clear hSw; go_simp) ?_
        try simp only [List.setIfInBounds_toArray, List.set_cons_zero, List.set_cons_succ]
        refine drawn_last (z := 7) rfl (by kernel_rfl) (by kernel_rfl) (by kernel_rfl) (fun K1 hK => ?_)
        go_simp
        refine (HMT.out _).mono ?_
        rintro e' wn ⟨rfl, tn⟩
        have HT2 := Lib.hid (hS0.trans tn (fun _ _ f => f))
        refine hK.out _ _ ?_
        clear hK K1 tn hS0 HMT
        try simp only [List.setIfInBounds_toArray, List.set_cons_zero, List.set_cons_succ]
        cases hm : meets19 y.p e.p with
        | true =>
          have HD : Hid (put20 l e = ([], 12)) := by
            show _ = _
            rw [HPU.out, if_pos (List.any_eq_true.2 ⟨y, List.mem_of_getElem? HY.out, hm⟩)]
          clear hm
          have HTF : Hid (Turn (fun _ => False) w wn) := (HTB.out.trans HT.out (fun _ _ f => f)).trans HT2.out (fun _ _ f => f)
          go_wp2
          go_ret2
          exact ⟨.slice none 0 0, by rw [HD.out]; rfl, by rw [HD.out]; exact RdE.nil _, HTF.out, fun k hk => by cases hk⟩
        | false =>
          have HM := Lib.hid hm
          clear hm
          go_wp2_with fail
          refine drawn_region (fun W => Turn (fun _ => False) wr W) [7] (by kernel_rfl) ?_
          have hS0 : Turn (fun _ => False) wr (World.drew wn) := HT2.out.drew
          generalize World.drew wn = we at *
          refine drawn_take 0 25 (.slice (some ad) N c) rfl rfl (by kernel_rfl) (by kernel_rfl) (by kernel_rfl) (by kernel_rfl) (fun _ _ _ h => h) (by rfl) (by assumption) (by intro w hSw; obtain hS1 := hSw; go_simp) ?_
          try simp only [List.setIfInBounds_toArray, List.set_cons_zero, List.set_cons_succ]
          refine drawn_take 1 26 (.int .i64 (i : Int)) rfl rfl (by kernel_rfl) (by kernel_rfl) (by kernel_rfl) (by kernel_rfl) (fun _ _ _ h => h) (by rfl) (by assumption) (by intro w hSw; obtain hS1 := hSw; go_simp) ?_
          try simp only [List.setIfInBounds_toArray, List.set_cons_zero, List.set_cons_succ]
          refine drawn_take 2 27 (.pointer (some (ad.add (i * 6)))) rfl rfl (by kernel_rfl) (by kernel_rfl) (by kernel_rfl) (by kernel_rfl) (fun _ _ _ h => h) (by rfl) (by assumption) (by intro w hSw; obtain hS1 := hSw; go_simp) ?_
          try simp only [List.setIfInBounds_toArray, List.set_cons_zero, List.set_cons_succ]
          refine drawn_take 3 28 (.pointer (some (ad.add (i * 6)))) rfl rfl (by kernel_rfl) (by kernel_rfl) (by kernel_rfl) (by kernel_rfl) (fun _ _ _ h => h) (by rfl) (by assumption) (by intro w hSw; obtain hS1 := hSw; go_simp) ?_
          try simp only [List.setIfInBounds_toArray, List.set_cons_zero, List.set_cons_succ]
          refine drawn_take 4 29 (tv19 y.p) rfl rfl (by kernel_rfl) (by kernel_rfl) (by kernel_rfl) (by kernel_rfl) (fun _ _ _ h => h) (by rfl) (by assumption) (by intro w hSw; obtain ⟨b0, b1⟩ := HC.out _ hSw; clear hSw; go_simp) ?_
          try simp only [List.setIfInBounds_toArray, List.set_cons_zero, List.set_cons_succ]
          refine drawn_take 5 30 (.pointer (some ⟨g, 0, none⟩)) rfl rfl (by kernel_rfl) (by kernel_rfl) (by kernel_rfl) (by kernel_rfl) (fun _ _ _ h => h) (by rfl) (by assumption) (by intro w hSw; obtain hS1 := hSw; go_simp) ?_
          try simp only [List.setIfInBounds_toArray, List.set_cons_zero, List.set_cons_succ]
          refine drawn_take 6 31 (tv19 e.p) rfl rfl (by kernel_rfl) (by kernel_rfl) (by kernel_rfl) (by kernel_rfl) (fun _ _ _ h => h) (by rfl) (by assumption) (by intro w hSw; obtain ⟨b0, b1⟩ := HB.out _ hSw; clear hSw; go_simp) ?_
          try simp only [List.setIfInBounds_toArray, List.set_cons_zero, List.set_cons_succ]
          refine drawn_last (z := 7) rfl (by kernel_rfl) (by kernel_rfl) (by kernel_rfl) (fun K1 hK => ?_)
          go_simp
          refine (HLS.out _).mono ?_
          rintro e' wm ⟨rfl, tn⟩
          have HTZ : Hid (Turn (fun _ => False) wb wm) := HT.out.trans (hS0.trans tn (fun _ _ f => f)) (fun _ _ f => f)
          refine hK.out _ _ ?_
          clear hK K1 tn hS0 HLS
          try simp only [List.setIfInBounds_toArray, List.set_cons_zero, List.set_cons_succ]
          cases hs : less19 y.p e.p with
          | true =>
            have HNQ : Hid (pos20 e.p 0 0 l = pos20 e.p (i + 1) (i + 1) (l.drop (i + 1))) := by show _ = _; rw [HNP.out, hs]; rfl
            clear hs
            go_wp2
            go_roundw
            case rel => exact ⟨i + 1, i + 1, by go_num, by go_num, hlt, Nat.le_refl _, take_all20 HA.out HY.out HM.out, HNQ.out, HTZ.out⟩
            case measure => simp [intOf]; omega
          | false =>
            have HNQ : Hid (pos20 e.p 0 0 l = pos20 e.p (i + 1) k (l.drop (i + 1))) := by show _ = _; rw [HNP.out, hs]; rfl
            clear hs
            go_wp2
            go_roundw
            case rel => exact ⟨i + 1, k, rfl, by go_num, hlt, Nat.le_succ_of_le hk, take_all20 HA.out HY.out HM.out, HNQ.out, HTZ.out⟩
            case measure => simp [intOf]; omega
      · obtain rfl : i = N := by omega
        have HD : Hid (put20 l e = (l.take k ++ e :: l.drop k, 0)) := by
          show _ = _
          have h1 : (l.any fun x => meets19 x.p e.p) = false := List.any_eq_false.2 (fun x hx => by
            have h2 := HA.out x (by rw [List.take_of_length_le (Nat.le_of_eq HN.out.symm)]; exact hx)
            rw [h2]; decide)
          have h3 : pos20 e.p 0 0 l = k := by rw [HP.out, List.drop_eq_nil_of_le (Nat.le_of_eq HN.out.symm)]; rfl
          rw [HPU.out, h1, if_neg (by decide)]
          unfold ins20
          rw [h3]
        have HBL : Hid (∀ W, Turn (fun _ => False) wr W → Box W g 32 (ecells20 e)) := fun W hW => HBE.out.turn (HT.out.trans hW (fun _ _ f => f)) (fun f => f)
        have HVR := Lib.hid (HV.out.later (HTB.out.trans HT.out (fun _ _ f => f)))
        have hkc : k ≤ c := by omega
        go_wp2_with fail
        refine drawn_region (fun W => Turn (fun _ => False) wr W) [] (by kernel_rfl) ?_
        have ht0 : Turn (fun _ => False) wr (World.drew wr) := (Turn.refl _ wr).drew
        generalize World.drew wr = wd at *
        have hS0 := ht0
        refine drawn_take 1 36 (.slice A i c) rfl rfl (by kernel_rfl) (by kernel_rfl) (by kernel_rfl) (by kernel_rfl) (fun _ _ _ h => h) (by rfl) (by assumption) (by intro w hSw; obtain hS1 := hSw; go_simp) ?_
        try simp only [List.setIfInBounds_toArray, List.set_cons_zero, List.set_cons_succ]
        refine drawn_take 2 37 (.int .i64 (k : Int)) rfl rfl (by kernel_rfl) (by kernel_rfl) (by kernel_rfl) (by kernel_rfl) (fun _ _ _ h => h) (by rfl) (by assumption) (by intro w hSw; obtain hS1 := hSw; go_simp) ?_
        try simp only [List.setIfInBounds_toArray, List.set_cons_zero, List.set_cons_succ]
        refine drawn_take 3 38 (.slice A k c) rfl rfl (by kernel_rfl) (by kernel_rfl) (by kernel_rfl) (by kernel_rfl) (fun _ _ _ h => h) (by rfl) (by assumption) (fun w _ => exec_front (E := EN20) rfl rfl rfl Try.underlying28 HZ.out hkc w) ?_
        try simp only [List.setIfInBounds_toArray, List.set_cons_zero, List.set_cons_succ]
        refine drawn_take 5 40 (ev20 e) rfl rfl (by kernel_rfl) (by kernel_rfl) (by kernel_rfl) (by kernel_rfl) (fun _ _ _ h => h) (by rfl) (by assumption) (by intro w hSw; obtain ⟨b0, b1, b2, b3, b4, b5⟩ := box_n20 (HBL.out _ hSw); clear hSw; go_simp) ?_
        try simp only [List.setIfInBounds_toArray, List.set_cons_zero, List.set_cons_succ]
        refine drawn_take 8 43 (.slice A i c) rfl rfl (by kernel_rfl) (by kernel_rfl) (by kernel_rfl) (by kernel_rfl) (fun _ _ _ h => h) (by rfl) (by assumption) (by intro w hSw; obtain hS1 := hSw; go_simp) ?_
        try simp only [List.setIfInBounds_toArray, List.set_cons_zero, List.set_cons_succ]
        refine drawn_take 9 44 (.int .i64 (k : Int)) rfl rfl (by kernel_rfl) (by kernel_rfl) (by kernel_rfl) (by kernel_rfl) (fun _ _ _ h => h) (by rfl) (by assumption) (by intro w hSw; obtain hS1 := hSw; go_simp) ?_
        try simp only [List.setIfInBounds_toArray, List.set_cons_zero, List.set_cons_succ]
        refine drawn_take 10 45 (tailV EN20 A i c k) rfl rfl (by kernel_rfl) (by kernel_rfl) (by kernel_rfl) (by kernel_rfl) (fun _ _ _ h => h) (by rfl) (by assumption) (fun w _ => exec_tail (E := EN20) rfl rfl rfl Try.underlying28 HZ.out hk w) ?_
        try simp only [List.setIfInBounds_toArray, List.set_cons_zero, List.set_cons_succ]
        refine drawn_ins (E := EN20) (l1 := l.take k) (l3 := l.drop k) (x := e) Try.underlying28 ent_info20 ent_zero20 (by omega) (fun W h => h) 0 4 6 7 11 35 39 41 42 46 38 40 45 rfl rfl rfl rfl rfl rfl rfl rfl rfl rfl rfl rfl rfl rfl rfl rfl rfl rfl rfl rfl
          (by kernel_rfl) (by kernel_rfl) (by kernel_rfl) (by kernel_rfl) (by kernel_rfl) (by kernel_rfl) (by kernel_rfl) (by simp) rfl rfl rfl (fun W ht => (HVR.out.later ht).front k hk) (fun W ht => rd_tailV (HVR.out.later ht) hk) (by have h1 := HN.out; simp; omega) HE.out HX.out hS0 ?_
        intro W v a b c d hn
        try simp only [List.setIfInBounds_toArray, List.set_cons_zero, List.set_cons_succ]
        have hS4 := hn.turn
        refine drawn_take 12 4 v rfl rfl (by kernel_rfl) (by kernel_rfl) (by kernel_rfl) (by kernel_rfl) (fun _ _ _ h => h) (by rfl) (by assumption) (by intro w hSw; clear hSw; go_simp) ?_
        try simp only [List.setIfInBounds_toArray, List.set_cons_zero, List.set_cons_succ]
        refine drawn_last1 13 5 (.int .i64 0) rfl rfl (by kernel_rfl) (by kernel_rfl) (by rfl) (by intro w; go_simp) hS4 ?_
        try simp only [List.setIfInBounds_toArray, List.set_cons_zero, List.set_cons_succ]
        have HR3 : Hid (RdE EN20 W v (l.take k ++ e :: l.drop k) ∧ Turn (fun _ => False) w W ∧ ∀ k, v.ownBlock = some k → w.heap.size ≤ k) := ⟨hn.own.rd, (HTB.out.trans HT.out (fun _ _ f => f)).trans hn.turn (fun _ _ f => f), fun k hk => Nat.le_trans (HTB.out.trans HT.out (fun _ _ f => f)).size (hn.new k hk)⟩
        clear hn hS0 ht0 hS4
        go_wp2
        go_ret2
        exact ⟨v, by rw [HD.out]; rfl, by rw [HD.out]; exact HR3.out.1, HR3.out.2.1, HR3.out.2.2⟩

end Go.Proofs.Ytgbphkbbedkepaa

/-
  Stage 20: numbers in memory; the document's Segs; equal numbers.
-/
namespace Go.Proofs.Ytgbphkbbedkepaa
open Go.RowKit

set_option maxRecDepth 100000

def EI20 : El Int where
  sz := 1
  enc x := [.int .i64 x]
  len _ := rfl
  one x u hu := by rw [List.mem_singleton.1 hu]; rfl
theorem num_info20 : (Try.prog.info? 2).map (fun i => (i.zero, i.size, i.bytes)) = some (some (.int .i64 0), EI20.sz, 8) := by kernel_rfl
theorem num_zero20 : (Value.cells (.int .i64 0)).size = EI20.sz := rfl
theorem num_size20 : (Try.prog.info? 2).map (·.size) = some EI20.sz := by kernel_rfl
theorem num_at20 {w : World} {A : Option Addr} {n c : Nat} {L : List Int} (h : RdE EI20 w (.slice A n c) L) {j : Nat} {x : Int} (hj : L[j]? = some x) :
    ∃ ad, A = some ad ∧ ∀ W, Turn (fun _ => False) w W → W.cell? (ad.add j) = some (.int .i64 x) := by
  obtain ⟨ad, hA, _⟩ := h.cells hj
  refine ⟨ad, hA, fun W ht => ?_⟩
  obtain ⟨ad', hA', hc⟩ := (h.later ht).cells hj
  rw [hA] at hA'
  cases hA'
  have h1 := hc 0 _ rfl
  rwa [show j * EI20.sz + 0 = j from by simp [EI20]] at h1
/-- Behind a list of numbers. -/
def Numbs20 (w : World) (l : List Int) (e : Ending) (w' : World) : Prop := ∃ v, e = .returned v ∧ RdE EI20 w' v l ∧ Turn (fun _ => False) w w'

def posS20 (s : Int) (o : List Int) : Nat := (o.takeWhile fun x => decide (x < s)).length
theorem posS_le20 (s : Int) (o : List Int) : posS20 s o ≤ o.length := by
  unfold posS20
  exact (List.takeWhile_prefix _).length_le
theorem posS_at20 (s : Int) (o : List Int) : ∀ i y, o[i]? = some y → i < posS20 s o → y < s := by
  induction o with
  | nil => intro i y h; cases h
  | cons a r ih =>
    intro i y h hi
    unfold posS20 at hi
    by_cases ha : a < s
    · rw [List.takeWhile_cons_of_pos (by simpa using ha), List.length_cons] at hi
      cases i with
      | zero => simp at h; omega
      | succ i => exact ih i y (by simpa using h) (by unfold posS20; omega)
    · rw [List.takeWhile_cons_of_neg (by simpa using ha)] at hi
      exact absurd hi (Nat.not_lt_zero _)
theorem posS_end20 (s : Int) (o : List Int) : ∀ y, o[posS20 s o]? = some y → ¬ y < s := by
  induction o with
  | nil => intro y h; cases h
  | cons a r ih =>
    intro y h
    unfold posS20 at h
    by_cases ha : a < s
    · rw [List.takeWhile_cons_of_pos (by simpa using ha), List.length_cons] at h
      exact ih y (by unfold posS20; simpa using h)
    · rw [List.takeWhile_cons_of_neg (by simpa using ha)] at h
      simp at h
      omega
theorem insS_is20 (o : List Int) (s : Int) : insS20 o s = o.take (posS20 s o) ++ s :: o.drop (posS20 s o) := by
  unfold insS20 posS20
  have h1 : o.take (o.takeWhile fun x => decide (x < s)).length = o.takeWhile fun x => decide (x < s) := by
    conv => lhs; arg 2; rw [← List.takeWhile_append_dropWhile (p := fun x => decide (x < s)) (l := o)]
    exact List.take_left
  have h2 : o.drop (o.takeWhile fun x => decide (x < s)).length = o.dropWhile fun x => decide (x < s) := by
    conv => lhs; arg 2; rw [← List.takeWhile_append_dropWhile (p := fun x => decide (x < s)) (l := o)]
    exact List.drop_left
  rw [h1, h2]
theorem segs_take20 {l : List N20} {i : Nat} {e : N20} (h : l[i]? = some e) : segs20 (l.take (i + 1)) = insS20 (segs20 (l.take i)) e.seg := by
  obtain ⟨h0, e1⟩ := List.getElem?_eq_some_iff.1 h
  unfold segs20
  rw [List.take_succ_eq_append_getElem h0, e1, List.foldl_append]
  rfl
theorem insS_len20 (o : List Int) (s : Int) : (insS20 o s).length = o.length + 1 := by
  rw [insS_is20, List.length_append, List.length_cons, List.length_take, List.length_drop]
  have := posS_le20 s o
  omega
theorem segs_len20 (l : List N20) : (segs20 l).length = l.length := by
  have key : ∀ (l : List N20) (o : List Int), (l.foldl (fun o e => insS20 o e.seg) o).length = o.length + l.length := by
    intro l
    induction l with
    | nil => intro o; rfl
    | cons e r ih =>
      intro o
      rw [List.foldl_cons, ih, insS_len20, List.length_cons]
      omega
  have h := key l []
  simpa [segs20] using h

end Go.Proofs.Ytgbphkbbedkepaa

/-
  Stage 20: the document's Apply.
-/
namespace Go.Proofs.Ytgbphkbbedkepaa
open Go.RowKit

set_option maxRecDepth 100000

theorem come_len20 : ∀ (c o : List N20), (come20 o c).1.length ≤ o.length + c.length
  | [], o => Nat.le_refl _
  | e :: r, o => by
    unfold come20
    split
    · exact Nat.zero_le _
    · rename_i h1
      have h2 := come_len20 r (put20 o e).1
      have h3 : (put20 o e).1.length ≤ o.length + 1 := by
        unfold put20
        split
        · exact Nat.zero_le _
        · split
          · exact Nat.zero_le _
          · show (ins20 o e).length ≤ _
            rw [ins_len20]
            exact Nat.le_refl _
      rw [List.length_cons]
      omega
theorem put_len20 (o : List N20) (e : N20) : (put20 o e).1.length ≤ o.length + 1 := by
  unfold put20
  split
  · exact Nat.zero_le _
  · split
    · exact Nat.zero_le _
    · show (ins20 o e).length ≤ _
      rw [ins_len20]
      exact Nat.le_refl _
theorem drop_len20 (o : List N20) (p : T19) : (drop20 o p).1.length ≤ o.length := List.length_filter_le _ _
theorem drop_len_any20 {α : Type} (l : List α) (i : Nat) (h : l.length ≤ i) : l.drop i = [] := List.drop_eq_nil_of_le h

/-- Entries in the row that came in, as they were, or in a new one. -/
def Mine20 (w : World) (v : Value) (l : List N20) (x : Value) (o : List N20) : Prop := (x = v ∧ o = l) ∨ ∀ k, x.ownBlock = some k → w.heap.size ≤ k
/-- Behind Apply: entries in the row that came in, as they were, or in a new one. -/
def Applied20 (w : World) (v : Value) (l : List N20) (r : List N20 × Int) (e : Ending) (w' : World) : Prop := ∃ u, e = .returned (.tuple #[u, .int .i64 r.2]) ∧ RdE EN20 w' u r.1 ∧ Turn (fun _ => False) w w' ∧ Mine20 w v l u r.1

set_option maxHeartbeats 8000000 in
theorem ref_apply20 (v u z : Value) (l : List N20) (G : List T19) (C : List N20) (w : World) (hv : RdE EN20 w v l) (hu : RdE ET20 w u G) (hz : RdE EN20 w z C) (hl : l.length ≤ 100000) (hg : G.length ≤ 100000) (hc : C.length ≤ 100000) :
    Calls Try.prog 25 #[v, u, z] w fun e' w' => Applied20 w v l (apply20 l G C) e' w' := by
  have HV := Lib.hid hv; have HU := Lib.hid hu; have HZ := Lib.hid hz
  obtain ⟨A, c, rfl⟩ := hv.shape
  obtain ⟨B, d, rfl⟩ := hu.shape
  obtain ⟨E, f, rfl⟩ := hz.shape
  obtain ⟨N, hN⟩ : ∃ N, N = l.length := ⟨_, rfl⟩
  obtain ⟨D, hD⟩ : ∃ D, D = G.length := ⟨_, rfl⟩
  obtain ⟨M, hM⟩ : ∃ M, M = C.length := ⟨_, rfl⟩
  rw [← hN] at HV hl ⊢
  rw [← hD] at HU hg ⊢
  rw [← hM] at HZ hc ⊢
  have HN := Lib.hid hN; have HD := Lib.hid hD; have HM := Lib.hid hM
  clear hv hu hz hN hD hM
  have HG0 : Hid (gone20 l G = gone20 l (G.drop 0)) := rfl
  go_enter Try.func25, Try.ntmps25
  go_wp2_with fail
  go_loopw [8, 9] (fun x8 x9 wr => ∃ (i : Nat) (o : List N20), x9 = .int .i64 (i : Int) ∧ i ≤ D ∧ o.length ≤ N ∧ RdE EN20 wr x8 o ∧ Mine20 w (.slice A N c) l x8 o ∧ gone20 l G = gone20 o (G.drop i) ∧ Turn (fun _ => False) w wr) (fun _ x9 _ => D - (intOf x9).toNat)
  case atStart => exact ⟨0, l, rfl, Nat.zero_le _, Nat.le_of_eq HN.out.symm, HV.out, .inl ⟨rfl, rfl⟩, HG0.out, Turn.refl _ _⟩
  case round =>
    clear HG0
    obtain ⟨i, o, rfl, hi, hol, hr, hnw, hsp, ht⟩ := hrel
    have HNV := Lib.hid hnw
    have HR := Lib.hid hr; have HSP := Lib.hid hsp; have HT := Lib.hid ht; have HOL := Lib.hid hol
    obtain ⟨A8, c8, rfl⟩ := hr.shape
    clear hr hsp ht hol hnw
    by_cases hlt : i < D
    · have hil : (i : Int) < D := by omega
      obtain ⟨p, hp⟩ : ∃ p, G[i]? = some p := ⟨_, List.getElem?_eq_getElem (by rw [← HD.out]; exact hlt)⟩
      obtain ⟨ad, rfl, hcp⟩ := part_at20 HU.out hp
      obtain ⟨a0, a1⟩ := hcp wr HT.out
      have HDR := Lib.hid (ref_drop20 _ o p wr HR.out (by have := HOL.out; omega))
      have HNX : Hid (gone20 l G = if (drop20 o p).2 = true then gone20 (drop20 o p).1 (G.drop (i + 1)) else none) := by
        show _ = _
        rw [HSP.out, drop_at20 hp]
        conv => lhs; unfold gone20
      have HDL := Lib.hid (drop_len20 o p)
      clear hp hcp
      generalize drop20 o p = q at *
      obtain ⟨o2, b⟩ := q
      dsimp only at HNX HDL
      unfold Dropped20 at HDR
      dsimp only at HDR
      go_wp2_with fail
      refine HDR.out.mono ?_
      rintro e' w2 ⟨v2, rfl, r2, t2, nw2⟩
      have HNW2 : Hid (Mine20 w (.slice A N c) l v2 o2) := .inr (fun k hk => Nat.le_trans HT.out.size (nw2 k hk))
      have HR2 := Lib.hid r2
      have HT2 := Lib.hid (HT.out.trans t2 (fun _ _ f => f))
      clear r2 t2 HDR a0 a1 nw2
      cases b with
      | true =>
        have HNY : Hid (gone20 l G = gone20 o2 (G.drop (i + 1))) := HNX.out.trans (if_pos rfl)
        go_wp2
        go_roundw
        case rel => exact ⟨i + 1, o2, by go_num, hlt, Nat.le_trans HDL.out HOL.out, HR2.out, HNW2.out, HNY.out, HT2.out⟩
        case measure => simp [intOf]; omega
      | false =>
        have HAP : Hid (apply20 l G C = (l, 11)) := by
          show _ = _
          have h : gone20 l G = none := HNX.out.trans (if_neg (by decide))
          unfold apply20
          rw [h]
        go_wp2
        go_ret2
        exact ⟨_, by rw [HAP.out]; rfl, by rw [HAP.out]; exact HV.out.later HT2.out, HT2.out, .inl ⟨rfl, by rw [HAP.out]⟩⟩
    · obtain rfl : i = D := by omega
      have HGN : Hid (gone20 l G = some o) := by
        show _ = _
        rw [HSP.out, List.drop_eq_nil_of_le (Nat.le_of_eq HD.out.symm)]
        rfl
      have HC0 : Hid (come20 o C = come20 o (C.drop 0)) := rfl
      clear HSP
      go_wp2_with fail
      go_loopw [8, 12] (fun x8 x12 wk => ∃ (k : Nat) (o2 : List N20), x12 = .int .i64 (k : Int) ∧ k ≤ M ∧ o2.length ≤ N + k ∧ RdE EN20 wk x8 o2 ∧ Mine20 w (.slice A N c) l x8 o2 ∧ come20 o C = come20 o2 (C.drop k) ∧ Turn (fun _ => False) w wk) (fun _ x12 _ => M - (intOf x12).toNat)
      case atStart => exact ⟨0, o, rfl, Nat.zero_le _, HOL.out, HR.out, HNV.out, HC0.out, HT.out⟩
      case round =>
        clear HC0 HR HT HOL HNV
        obtain ⟨k, o2, rfl, hk, hol, hr, hnw, hsp, ht⟩ := hrel
        have HNV := Lib.hid hnw
        have HR := Lib.hid hr; have HSP := Lib.hid hsp; have HT := Lib.hid ht; have HOL := Lib.hid hol
        obtain ⟨A9, c9, rfl⟩ := hr.shape
        clear hr hsp ht hol hnw
        by_cases hlk : k < M
        · have hkl : (k : Int) < M := by omega
          obtain ⟨e, he⟩ : ∃ e, C[k]? = some e := ⟨_, List.getElem?_eq_getElem (by rw [← HM.out]; exact hlk)⟩
          obtain ⟨ed, rfl, hce⟩ := ent_at20 HZ.out he
          obtain ⟨a0, a1, a2, a3, a4, a5⟩ := hce wr HT.out
          have HPU := Lib.hid (ref_put20 _ o2 e wr HR.out (by have := HOL.out; omega))
          have HNX : Hid (come20 o C = if (put20 o2 e).2 ≠ 0 then ([], (put20 o2 e).2) else come20 (put20 o2 e).1 (C.drop (k + 1))) := by
            show _ = _
            rw [HSP.out, drop_at20 he]
            conv => lhs; unfold come20
          have HPL := Lib.hid (put_len20 o2 e)
          clear he hce
          generalize put20 o2 e = q at *
          obtain ⟨o3, b⟩ := q
          dsimp only at HNX HPL
          unfold Putted20 at HPU
          dsimp only at HPU
          go_wp2_with fail
          refine HPU.out.mono ?_
          rintro e' w2 ⟨v2, rfl, r2, t2, nw2⟩
          have HNW2 : Hid (Mine20 w (.slice A N c) l v2 o3) := .inr (fun k hk => Nat.le_trans HT.out.size (nw2 k hk))
          have HR2 := Lib.hid r2
          have HT2 := Lib.hid (HT.out.trans t2 (fun _ _ f => f))
          clear r2 t2 HPU a0 a1 a2 a3 a4 a5 nw2
          by_cases hb : b = 0
          · subst hb
            have HNY : Hid (come20 o C = come20 o3 (C.drop (k + 1))) := HNX.out.trans (if_neg (by decide))
            go_wp2
            go_roundw
            case rel => exact ⟨k + 1, o3, by go_num, hlk, by have := HPL.out; have := HOL.out; omega, HR2.out, HNW2.out, HNY.out, HT2.out⟩
            case measure => simp [intOf]; omega
          · have HAP : Hid (apply20 l G C = (l, b)) := by
              show _ = _
              have h : come20 o C = ([], b) := HNX.out.trans (if_pos hb)
              unfold apply20
              rw [HGN.out]
              dsimp only
              rw [h, if_pos hb]
            have hb1 : (b == 0) = false := by rw [beq_eq_false_iff_ne]; exact hb
            have hb2 : (b != 0) = true := by rw [bne_iff_ne]; exact hb
            clear hb
            go_wp2
            go_ret2
            exact ⟨_, by rw [HAP.out]; rfl, by rw [HAP.out]; exact HV.out.later HT2.out, HT2.out, .inl ⟨rfl, by rw [HAP.out]⟩⟩
        · obtain rfl : k = M := by omega
          have HAP : Hid (apply20 l G C = (o2, 0)) := by
            show _ = _
            have h : come20 o C = (o2, 0) := by
              rw [HSP.out, List.drop_eq_nil_of_le (Nat.le_of_eq HM.out.symm)]
              rfl
            unfold apply20
            rw [HGN.out]
            dsimp only
            rw [h, if_neg (by simp)]
          go_wp2
          go_ret2
          exact ⟨_, by rw [HAP.out]; rfl, by rw [HAP.out]; exact HR.out, HT.out, by rw [HAP.out]; exact HNV.out⟩

end Go.Proofs.Ytgbphkbbedkepaa

/-
  Stage 19: partitions that came in.
-/
namespace Go.Proofs.Ytgbphkbbedkepaa
open Go.RowKit Go.ChangeShapes Go.WideShapes Go.Deep

set_option maxRecDepth 100000

def rng19 (x : Int) : Prop := -9223372036854775808 ≤ x ∧ x ≤ 9223372036854775807
/-- A partition whose numbers are those of an int64. -/
def T19.fits (p : T19) : Prop := rng19 p.t ∧ rng19 p.i
theorem rng_wf19 {x : Int} (h : (Lit.int .i64 x).wf = true) : rng19 x := by
  unfold rng19
  simpa [Lit.wf, IntKind.min, IntKind.max, IntKind.signed, IntKind.bits] using h
theorem open_partc19 {H : Type} {enc : TypeId × Value → H} {W : World} {n : Nat} {cs : List Value} {y : DataW H × List MemPlace} (hl : cs.length = 2) (h : DataW.trod enc Try.prog W 0 (fun _ => true) true n 24 cs = some y) :
    ∃ p : T19, cs = (tcells19 p).toList ∧ p.fits := by
  obtain ⟨xs, n', _, rfl, _, hlen, hf⟩ := DataW.trod_struct Try.underlying24 h
  have e1 : Try.prog.cellsOf 2 = 1 := by kernel_rfl
  have e2 : Try.prog.cellsOf 3 = 1 := by kernel_rfl
  match xs, hlen, cs, hl with
  | [y0, y1], _, [c0, c1], _ =>
    have g0 := hf 0 _ rfl
    have g1 := hf 1 _ rfl
    simp [e1, e2] at g0 g1
    obtain ⟨K0, k0, _, kw0⟩ := DataW.trod_int Try.underlying3 g0
    obtain ⟨K1, k1, _, kw1⟩ := DataW.trod_int Try.underlying2 g1
    simp only [List.cons.injEq, and_true] at k0 k1
    subst k0 k1
    exact ⟨⟨K0, K1⟩, rfl, rng_wf19 kw0, rng_wf19 kw1⟩
theorem open_part19 {H : Type} {enc : TypeId × Value → H} {W : World} {b0 : Nat} {v : Value} {d : DataW H} {p : List MemPlace} (hv : Value.okWide Try.prog W .any b0 24 v) (h : DataW.Trod enc Try.prog W 0 (fun _ => true) true 24 v d p) : ∃ q : T19, v = tv19 q ∧ q.fits := by
  simp only [Value.okWide, Try.underlying24] at hv
  obtain ⟨cs, rfl, hsz, _⟩ := hv
  obtain ⟨fuel, hf⟩ := h
  have e5 : Try.prog.cellsOf 24 = 2 := by kernel_rfl
  obtain ⟨q, hq, hqf⟩ := open_partc19 (by show (Value.cells (.agg cs)).toList.length = 2; simp [Value.cells]; omega) hf
  refine ⟨q, ?_, hqf⟩
  have hq2 : cs.toList = (tcells19 q).toList := hq
  have hq3 : cs = tcells19 q := by rw [← Array.toList_inj]; exact hq2
  rw [hq3]

end Go.Proofs.Ytgbphkbbedkepaa

/-
  Stage 20: edits that came in; which are light.
-/
namespace Go.Proofs.Ytgbphkbbedkepaa
open Go.RowKit Go.ChangeShapes Go.WideShapes Go.Deep

set_option maxRecDepth 100000

/-- An edit: partitions that go, entries that come (slices that came in). -/
structure AC20 where
  A : Option Addr
  c : Nat
  d : List T19
  B : Option Addr
  f : Nat
  p : List N20
instance : Inhabited AC20 := ⟨⟨none, 0, [], none, 0, []⟩⟩
abbrev AC20.ds (a : AC20) : Value := .slice a.A a.d.length a.c
abbrev AC20.ps (a : AC20) : Value := .slice a.B a.p.length a.f
abbrev av20 (a : AC20) : Value := .agg #[a.ds, a.ps]
def EA20 : El AC20 where
  sz := 2
  enc a := [a.ds, a.ps]
  len _ := rfl
  one a u hu := by
    simp only [List.mem_cons, List.not_mem_nil, or_false] at hu
    rcases hu with rfl | rfl <;> rfl
/-- An entry whose numbers are those of an int64. -/
def N20.fits (e : N20) : Prop := e.p.fits ∧ rng19 e.seg ∧ rng19 e.mark ∧ rng19 e.rows
theorem right_fits20 {e : N20} (h : right20 e = true) : e.fits := by
  have h1 := right_part20 h
  unfold right20 at h
  simp only [Bool.and_eq_true, in20, decide_eq_true_iff] at h
  obtain ⟨-, h2, h3, h4, -⟩ := h
  unfold N20.fits T19.fits rng19
  unfold right19 most19 at h1
  simp only [Bool.and_eq_true, decide_eq_true_iff] at h1
  split at h1 <;> try split at h1 <;> try split at h1
  all_goals omega
/-- What holds of an edit that came in. -/
structure AcOk20 (W : World) (a : AC20) : Prop where
  d : RdE ET20 W a.ds a.d
  dn : a.d.length ≤ maxLen
  df : ∀ x ∈ a.d, x.fits
  p : RdE EN20 W a.ps a.p
  pn : a.p.length ≤ maxLen
  pf : ∀ x ∈ a.p, x.fits
theorem AcOk20.later {w w' : World} {a : AC20} (h : AcOk20 w a) (ht : Turn (fun _ => False) w w') : AcOk20 w' a := ⟨h.d.later ht, h.dn, h.df, h.p.later ht, h.pn, h.pf⟩
theorem open_part20 {H : Type} {enc : TypeId × Value → H} {W : World} (n : Nat) (cs : List Value) (y : DataW H × List MemPlace) (hl : cs.length = ET20.sz) (h : DataW.trod enc Try.prog W 0 (fun _ => true) true n 24 cs = some y) :
    ∃ x, cs = ET20.enc x ∧ x.fits := by
  obtain ⟨p, hp, hf⟩ := open_partc19 hl h
  exact ⟨p, hp, hf⟩
theorem open_ent20 {H : Type} {enc : TypeId × Value → H} {W : World} (n : Nat) (cs : List Value) (y : DataW H × List MemPlace) (hl : cs.length = EN20.sz) (h : DataW.trod enc Try.prog W 0 (fun _ => true) true n 32 cs = some y) :
    ∃ x, cs = EN20.enc x ∧ x.fits := by
  obtain ⟨xs, n', _, rfl, _, hlen, hf⟩ := DataW.trod_struct Try.underlying32 h
  have e1 : Try.prog.cellsOf 2 = 1 := by kernel_rfl
  have e2 : Try.prog.cellsOf 24 = 2 := by kernel_rfl
  have e3 : Try.prog.cellsOf 4 = 1 := by kernel_rfl
  match xs, hlen, cs, hl with
  | [y0, y1, y2, y3, y4], _, [c0, c1, c2, c3, c4, c5], _ =>
    have g0 := hf 0 _ rfl
    have g1 := hf 1 _ rfl
    have g2 := hf 2 _ rfl
    have g3 := hf 3 _ rfl
    have g4 := hf 4 _ rfl
    simp [e1, e2, e3] at g0 g1 g2 g3 g4
    obtain ⟨p, hp, hpf⟩ := open_partc19 (by rfl) g0
    obtain ⟨K1, k1, _, kw1⟩ := DataW.trod_int Try.underlying2 g1
    obtain ⟨K2, k2, _, kw2⟩ := DataW.trod_int Try.underlying2 g2
    obtain ⟨K3, k3, _, kw3⟩ := DataW.trod_int Try.underlying2 g3
    obtain ⟨b, k4, _⟩ := DataW.trod_bool Try.underlying4 g4
    simp only [List.cons.injEq, and_true] at hp k1 k2 k3 k4
    obtain ⟨rfl, rfl⟩ := hp
    subst k1 k2 k3 k4
    exact ⟨⟨p, K1, K2, K3, b⟩, rfl, hpf, rng_wf19 kw1, rng_wf19 kw2, rng_wf19 kw3⟩
theorem open_parts_in20 {H : Type} {enc : TypeId × Value → H} {W : World} {fuel : Nat} {cs : List Value} {x : DataW H × List MemPlace}
    (hf : DataW.trod enc Try.prog W 0 (fun _ => true) true fuel 42 cs = some x) : ∃ v l, cs = [v] ∧ RdE ET20 W v l ∧ l.length ≤ maxLen ∧ ∀ x ∈ l, x.fits := by
  have key : ∀ (a : Option Addr) (len cap : Nat), cs = [.slice a len cap] → ∃ v l, cs = [v] ∧ RdE ET20 W v l ∧ l.length ≤ maxLen ∧ ∀ x ∈ l, x.fits := fun a len cap hcs => by
    obtain ⟨d, p⟩ := x
    obtain ⟨l, h1, h2, h3⟩ := open_elems ET20 (fun x => x.fits) Try.underlying42 (by kernel_rfl) (enc := enc) (W := W) (v := .slice a len cap) (d := d) (p := p) rfl ⟨fuel, by
      show DataW.trod enc Try.prog W 0 (fun _ => true) true fuel _ _ = _
      rw [hcs] at hf
      simpa [Value.cells] using hf⟩ open_part20
    exact ⟨_, l, hcs, h1, h2, h3⟩
  rcases open_slice Try.underlying42 hf with ⟨hcs, _⟩ | ⟨a', len, cap, m, n, D, Pl, hcs, _⟩
  · exact key _ _ _ hcs
  · exact key _ _ _ hcs
theorem open_ents_in20 {H : Type} {enc : TypeId × Value → H} {W : World} {fuel : Nat} {cs : List Value} {x : DataW H × List MemPlace}
    (hf : DataW.trod enc Try.prog W 0 (fun _ => true) true fuel 28 cs = some x) : ∃ v l, cs = [v] ∧ RdE EN20 W v l ∧ l.length ≤ maxLen ∧ ∀ x ∈ l, x.fits := by
  have key : ∀ (a : Option Addr) (len cap : Nat), cs = [.slice a len cap] → ∃ v l, cs = [v] ∧ RdE EN20 W v l ∧ l.length ≤ maxLen ∧ ∀ x ∈ l, x.fits := fun a len cap hcs => by
    obtain ⟨d, p⟩ := x
    obtain ⟨l, h1, h2, h3⟩ := open_elems EN20 (fun x => x.fits) Try.underlying28 (by kernel_rfl) (enc := enc) (W := W) (v := .slice a len cap) (d := d) (p := p) rfl ⟨fuel, by
      show DataW.trod enc Try.prog W 0 (fun _ => true) true fuel _ _ = _
      rw [hcs] at hf
      simpa [Value.cells] using hf⟩ open_ent20
    exact ⟨_, l, hcs, h1, h2, h3⟩
  rcases open_slice Try.underlying28 hf with ⟨hcs, _⟩ | ⟨a', len, cap, m, n, D, Pl, hcs, _⟩
  · exact key _ _ _ hcs
  · exact key _ _ _ hcs
theorem open_act20 {H : Type} {enc : TypeId × Value → H} {W : World} (n : Nat) (cs : List Value) (y : DataW H × List MemPlace) (hl : cs.length = EA20.sz) (h : DataW.trod enc Try.prog W 0 (fun _ => true) true n 44 cs = some y) :
    ∃ x, cs = EA20.enc x ∧ AcOk20 W x := by
  obtain ⟨xs, n', _, rfl, _, hlen, hf⟩ := DataW.trod_struct Try.underlying44 h
  have e2 : Try.prog.cellsOf 42 = 1 := by kernel_rfl
  have e4 : Try.prog.cellsOf 28 = 1 := by kernel_rfl
  match xs, hlen, cs, hl with
  | [y0, y1], _, [c0, c1], _ =>
    have g0 := hf 0 _ rfl
    have g1 := hf 1 _ rfl
    simp [e2, e4] at g0 g1
    obtain ⟨v, l, k2, hr, hl3, hlf⟩ := open_parts_in20 g0
    obtain ⟨u, t, k3, hrt, hlt, htf⟩ := open_ents_in20 g1
    simp only [List.cons.injEq, and_true] at k2 k3
    subst k2 k3
    obtain ⟨A, c, rfl⟩ := hr.shape
    obtain ⟨B, d, rfl⟩ := hrt.shape
    exact ⟨⟨A, c, l, B, d, t⟩, rfl, hr, hl3, hlf, hrt, hlt, htf⟩
theorem open_acts20 {H : Type} {enc : TypeId × Value → H} {W : World} {v : Value} {d : DataW H} {p : List MemPlace} {a : Option Addr} {len cap : Nat} (hv : v = .slice a len cap)
    (h : DataW.Trod enc Try.prog W 0 (fun _ => true) true 22 v d p) : ∃ l : List AC20, RdE EA20 W v l ∧ l.length ≤ maxLen ∧ ∀ x ∈ l, AcOk20 W x :=
  open_elems EA20 (AcOk20 W) Try.underlying22 (by kernel_rfl) hv h open_act20
theorem act_at20 {w : World} {A : Option Addr} {n c : Nat} {L : List AC20} (h : RdE EA20 w (.slice A n c) L) {j : Nat} {a : AC20} (hj : L[j]? = some a) :
    ∃ ad, A = some ad ∧ ∀ W, Turn (fun _ => False) w W → W.cell? (ad.add (j * 2)) = some a.ds ∧ W.cell? ⟨(ad.add (j * 2)).block, (ad.add (j * 2)).off + 1, none⟩ = some a.ps := by
  obtain ⟨ad, hA, _⟩ := h.cells hj
  refine ⟨ad, hA, fun W ht => ?_⟩
  obtain ⟨ad', hA', hc⟩ := (h.later ht).cells hj
  rw [hA] at hA'
  cases hA'
  have key : ∀ (k : Nat) (u : Value), (EA20.enc a)[k + 1]? = some u → W.cell? ⟨(ad.add (j * 2)).block, (ad.add (j * 2)).off + (k + 1), none⟩ = some u := fun k u hu => by
    rw [show (⟨(ad.add (j * 2)).block, (ad.add (j * 2)).off + (k + 1), none⟩ : Addr) = (ad.add (j * 2)).add (k + 1) from rfl, eadd_add]
    exact hc (k + 1) u hu
  exact ⟨hc 0 _ rfl, key 0 _ rfl⟩

/-- Is an edit short? -/
def short20 (a : AC20) : Bool := decide (a.d.length ≤ 30) && decide (a.p.length ≤ 30)
def light20 (l : List AC20) : Bool := decide (l.length ≤ 40) && l.all short20
theorem light_not20 {l : List AC20} {i : Nat} {a : AC20} (hi : l[i]? = some a) (h : short20 a = false) : light20 l = false := by
  unfold light20
  rw [Bool.and_eq_false_iff]
  right
  rw [List.all_eq_false]
  exact ⟨a, List.mem_of_getElem? hi, by rw [h]; decide⟩
theorem light_yes20 {l : List AC20} (h1 : l.length ≤ 40) (h : ∀ a ∈ l.take l.length, short20 a = true) : light20 l = true := by
  unfold light20
  rw [List.take_length] at h
  rw [decide_eq_true h1, Bool.true_and, List.all_eq_true]
  exact h
theorem light_short20 {l : List AC20} (h : light20 l = true) : l.length ≤ 40 ∧ ∀ a ∈ l, a.d.length ≤ 30 ∧ a.p.length ≤ 30 := by
  unfold light20 at h
  rw [Bool.and_eq_true, List.all_eq_true] at h
  refine ⟨of_decide_eq_true h.1, fun a ha => ?_⟩
  have h2 := h.2 a ha
  unfold short20 at h2
  simpa using h2

set_option maxHeartbeats 4000000 in
theorem light_any20 (v : Value) (l : List AC20) (w : World) (hv : RdE EA20 w v l) (hl : l.length ≤ maxLen) (ho : ∀ a ∈ l, a.d.length ≤ maxLen ∧ a.p.length ≤ maxLen) :
    Calls Try.prog 7 #[v] w fun e w' => e = .returned (.bool (light20 l)) ∧ w' = w := by
  have HV := Lib.hid hv; have HO := Lib.hid ho
  obtain ⟨A, c, rfl⟩ := hv.shape
  unfold maxLen at hl
  obtain ⟨N, hN⟩ : ∃ N, N = l.length := ⟨_, rfl⟩
  rw [← hN] at HV hl ⊢
  have HN := Lib.hid hN
  clear hv ho hN
  by_cases h40 : N ≤ 40
  · have h40' : (N : Int) ≤ 40 := by omega
    go_enter Try.func7, Try.ntmps7
    go_wp2_with fail
    go_loopw [3] (fun x3 wr => wr = w ∧ ∃ i : Nat, x3 = .int .i64 (i : Int) ∧ i ≤ N ∧ ∀ a ∈ l.take i, short20 a = true) (fun x3 _ => N - (intOf x3).toNat)
    case atStart => exact ⟨rfl, 0, rfl, Nat.zero_le _, fun a ha => by cases ha⟩
    case round =>
      obtain ⟨rfl, i, rfl, hi, he⟩ := hrel
      have HE := Lib.hid he
      clear he
      by_cases hlt : i < N
      · obtain ⟨a, ha⟩ : ∃ a, l[i]? = some a := ⟨_, List.getElem?_eq_getElem (by rw [← HN.out]; exact hlt)⟩
        obtain ⟨ad, rfl, hc⟩ := act_at20 HV.out ha
        have hil : (i : Int) < N := by omega
        obtain ⟨x0, x1⟩ := hc wr (Turn.refl _ _)
        have HA := Lib.hid ha
        obtain ⟨o1, o2⟩ := HO.out a (List.mem_of_getElem? ha)
        unfold maxLen at o1 o2
        obtain ⟨aA, ac, ad1, aB, af, ap⟩ := a
        dsimp only [AC20.ds, AC20.ps] at x0 x1 o1 o2
        obtain ⟨D, hD⟩ : ∃ D, D = ad1.length := ⟨_, rfl⟩
        obtain ⟨M, hM⟩ : ∃ M, M = ap.length := ⟨_, rfl⟩
        rw [← hD] at x0 o1
        rw [← hM] at x1 o2
        have HSH : Hid (short20 ⟨aA, ac, ad1, aB, af, ap⟩ = (decide (D ≤ 30) && decide (M ≤ 30))) := by show _ = _; unfold short20; rw [hD, hM]
        clear hc ha hD hM
        by_cases h1 : D ≤ 30
        · by_cases h2 : M ≤ 30
          · have g1 : ¬ ((30 : Int) < D) := by omega
            have g2 : ¬ ((30 : Int) < M) := by omega
            have HS1 : Hid (short20 ⟨aA, ac, ad1, aB, af, ap⟩ = true) := by show _ = _; rw [HSH.out, decide_eq_true h1, decide_eq_true h2]; rfl
            clear h1 h2 o1 o2
            go_wp2
            go_roundw
            case rel => exact ⟨trivial, i + 1, by go_num, hlt, take_all20 HE.out HA.out HS1.out⟩
            case measure => simp [intOf]; omega
          · have g1 : ¬ ((30 : Int) < D) := by omega
            have g2 : (30 : Int) < M := by omega
            have HLN : Hid (light20 l = false) := light_not20 HA.out (by rw [HSH.out, decide_eq_false h2, Bool.and_false])
            clear h1 h2 o1 o2
            go_wp2
            go_ret
            exact ⟨by rw [HLN.out]; rfl, rfl⟩
        · have g1 : (30 : Int) < D := by omega
          have HLN : Hid (light20 l = false) := light_not20 HA.out (by rw [HSH.out, decide_eq_false h1, Bool.false_and])
          clear h1 o1 o2
          go_wp2
          go_ret
          exact ⟨by rw [HLN.out]; rfl, rfl⟩
      · obtain rfl : i = N := by omega
        have HLY : Hid (light20 l = true) := light_yes20 (by rw [← HN.out]; exact h40) (by rw [← HN.out]; exact HE.out)
        go_wp2
        go_ret
        exact ⟨by rw [HLY.out]; rfl, rfl⟩
  · have h40' : ¬ ((N : Int) ≤ 40) := by omega
    have h40'' : (40 : Int) < N := by omega
    have HLN : Hid (light20 l = false) := by show _ = _; unfold light20; rw [decide_eq_false (by rw [← HN.out]; exact h40)]; rfl
    go_enter Try.func7, Try.ntmps7
    go_wp2
    go_ret
    exact ⟨by rw [HLN.out]; rfl, rfl⟩

end Go.Proofs.Ytgbphkbbedkepaa
