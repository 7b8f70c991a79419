/-
  The law's own argument: a list of things that are put.
-/
import Derived.Test.YtjanmiafnldkgaaOl
import Derived.ProofKit
import Derived.OpenShut
import Derived.Deep.Slices
import Derived.Deep.Fields
namespace Go.Proofs.Ytjanmiafnldkgaa
open Go.RowKit

/-- One thing that is put, as plain data. -/
structure PD where
  K : Int
  M : Int
  N : Nat
  S : Int
  T : ByteArray
  B : Bool

def PD.val (x : PD) : Value := .agg #[.int .i64 x.K, .int .i64 x.M, .int .u64 x.N, .int .i64 x.S, .string x.T, .bool x.B]

/-- Its numbers fit their kinds. -/
def PD.Fit (x : PD) : Prop := Hid (x.N < 18446744073709551616) ∧ Hid (-9223372036854775808 ≤ x.S) ∧ Hid (x.S ≤ 9223372036854775807) ∧ x.T.size ≤ maxLen

/-- It lies from offset o of block b on. -/
def PD.At (w : World) (b o : Nat) (x : PD) : Prop :=
  w.cell? ⟨b, o, none⟩ = some (.int .i64 x.K) ∧ w.cell? ⟨b, o + 1, none⟩ = some (.int .i64 x.M) ∧ w.cell? ⟨b, o + 2, none⟩ = some (.int .u64 x.N) ∧
    w.cell? ⟨b, o + 3, none⟩ = some (.int .i64 x.S) ∧ w.cell? ⟨b, o + 4, none⟩ = some (.string x.T) ∧ w.cell? ⟨b, o + 5, none⟩ = some (.bool x.B)

def w6 (w : World) (a : Addr) (o : Nat) (x : PD) : Prop :=
  w.cell? (a.add o) = some (.int .i64 x.K) ∧ w.cell? (a.add (o + 1)) = some (.int .i64 x.M) ∧ w.cell? (a.add (o + 2)) = some (.int .u64 x.N) ∧
    w.cell? (a.add (o + 3)) = some (.int .i64 x.S) ∧ w.cell? (a.add (o + 4)) = some (.string x.T) ∧ w.cell? (a.add (o + 5)) = some (.bool x.B)

/-- A slice of such things. -/
def PSl (w : World) (v : Value) (l : List PD) : Prop :=
  ∃ A c, v = .slice A l.length c ∧ (0 < l.length → ∃ b o, A = some ⟨b, o, none⟩ ∧ ∀ i x, l[i]? = some x → PD.At w b (o + i * 6) x) ∧ ∀ x ∈ l, PD.Fit x

theorem PD.At.turn {w w' : World} {b o : Nat} {x : PD} {S : Nat → Prop} (h : PD.At w b o x) (ht : Turn S w w') (hs : ¬ S b) : PD.At w' b o x := by
  obtain ⟨h0, h1, h2, h3, h4, h5⟩ := h
  have hb := World.block_lt_of_cell? w _ h0
  have hc : ∀ q, w'.cell? ⟨b, q, none⟩ = w.cell? ⟨b, q, none⟩ := fun q => ht.cell (p := ⟨b, q, none⟩) hb hs
  exact ⟨(hc _).trans h0, (hc _).trans h1, (hc _).trans h2, (hc _).trans h3, (hc _).trans h4, (hc _).trans h5⟩

theorem PSl.later {w w' : World} {v : Value} {l : List PD} (h : PSl w v l) (ht : Turn (fun _ => False) w w') : PSl w' v l := by
  obtain ⟨A, c, hv, ha, hf⟩ := h
  refine ⟨A, c, hv, fun hl => ?_, hf⟩
  obtain ⟨b, o, hA, hx⟩ := ha hl
  exact ⟨b, o, hA, fun i x hi => (hx i x hi).turn ht (fun f => f)⟩

theorem PSl.at {w : World} {A : Option Addr} {c n : Nat} {l : List PD} (h : PSl w (.slice A n c) l) {i : Nat} {x : PD} (hi : l[i]? = some x) : ∃ b o, A = some ⟨b, o, none⟩ ∧ PD.At w b (o + i * 6) x ∧ PD.Fit x := by
  obtain ⟨A', c', hv, ha, hf⟩ := h
  injection hv with h1 h2 h3
  subst h1
  have hlt : i < l.length := (List.getElem?_eq_some_iff.1 hi).1
  obtain ⟨b, o, hA, hx⟩ := ha (by omega)
  exact ⟨b, o, hA, hx i x hi, hf x (List.mem_of_getElem? hi)⟩

section
open Go.ChangeShapes Go.WideShapes Go.Deep
theorem open_parts {H : Type} {enc : TypeId × Value → H} {W : World} {v : Value} {d : DataW H} {p : List MemPlace} {a : Option Addr} {len cap : Nat} (hv : v = .slice a len cap)
    (h : DataW.Trod enc Try.prog W 0 (fun _ => true) true 36 v d p) : ∃ l, PSl W v l ∧ l.length ≤ maxLen := by
  subst hv
  obtain ⟨fuel, hf⟩ := h
  rcases open_slice Try.underlying36 hf with ⟨hcs, _⟩ | ⟨a', len', cap', m, n, D, Pl, hcs, _, hl, hm, hmm, _, hx⟩
  · simp [Value.cells] at hcs
    obtain ⟨rfl, rfl, rfl⟩ := hcs
    exact ⟨[], ⟨none, 0, rfl, fun h => absurd h (by simp), fun _ h => by cases h⟩, Nat.zero_le _⟩
  · simp [Value.cells] at hcs
    obtain ⟨rfl, rfl, rfl⟩ := hcs
    have hC : Try.prog.cellsOf 40 = 6 := by kernel_rfl
    have hmm' : m = cap := by simpa using hmm
    subst hmm'
    have e3 : Try.prog.cellsOf 3 = 1 := by kernel_rfl
    have e22 : Try.prog.cellsOf 22 = 1 := by kernel_rfl
    have e2 : Try.prog.cellsOf 2 = 1 := by kernel_rfl
    have e9 : Try.prog.cellsOf 9 = 1 := by kernel_rfl
    have e4 : Try.prog.cellsOf 4 = 1 := by kernel_rfl
    have key : ∀ i, i < len → ∃ x : PD, PD.Fit x ∧ w6 W a' (i * 6) x := by
      intro i hi
      obtain ⟨cs, h1, h2⟩ := hx i (by omega)
      rw [hC] at h1
      obtain ⟨_, hlen, hcell⟩ := World.cells?_some h1
      obtain ⟨xs, n', _, _, _, hxl, hg⟩ := DataW.trod_struct Try.underlying40 h2
      match cs, hlen, xs, hxl with
      | [c0, c1, c2, c3, c4, c5], _, [y0, y1, y2, y3, y4, y5], _ =>
        have g0 := hg 0 _ rfl
        have g1 := hg 1 _ rfl
        have g2 := hg 2 _ rfl
        have g3 := hg 3 _ rfl
        have g4 := hg 4 _ rfl
        have g5 := hg 5 _ rfl
        simp [e3, e22, e2, e9, e4] at g0 g1 g2 g3 g4 g5
        obtain ⟨K, k0, _, kw⟩ := DataW.trod_int Try.underlying3 g0
        obtain ⟨M, k1, _, _⟩ := DataW.trod_int Try.underlying3 g1
        obtain ⟨N, k2, _, nw⟩ := DataW.trod_int Try.underlying22 g2
        obtain ⟨S, k3, _, sw⟩ := DataW.trod_int Try.underlying2 g3
        obtain ⟨T, k4, _, tw⟩ := DataW.trod_string Try.underlying9 g4
        obtain ⟨B, k5, _⟩ := DataW.trod_bool Try.underlying4 g5
        simp only [List.cons.injEq, and_true] at k0 k1 k2 k3 k4 k5
        subst k0 k1 k2 k3 k4 k5
        have hN : 0 ≤ N ∧ N ≤ 18446744073709551615 := by simpa [Lit.wf, IntKind.min, IntKind.max, IntKind.signed, IntKind.bits] using nw
        have hS : -9223372036854775808 ≤ S ∧ S ≤ 9223372036854775807 := by simpa [Lit.wf, IntKind.min, IntKind.max, IntKind.signed, IntKind.bits] using sw
        obtain ⟨N', rfl⟩ := Int.eq_ofNat_of_zero_le hN.1
        refine ⟨⟨K, M, N', S, T, B⟩, ⟨by show N' < 18446744073709551616; omega, hS.1, hS.2, tw⟩, ?_⟩
        have hc := fun j (hj : j < 6) => hcell j hj
        simp only [Go.Deep.add_add] at hc
        exact ⟨hc 0 (by omega), hc 1 (by omega), hc 2 (by omega), hc 3 (by omega), hc 4 (by omega), hc 5 (by omega)⟩
    haveI : Inhabited PD := ⟨⟨0, 0, 0, 0, ByteArray.empty, false⟩⟩
    obtain ⟨V, hV⟩ := choose_lt key
    have hll : ((List.range len).map V).length = len := by simp
    refine ⟨(List.range len).map V, ⟨some a', m, by rw [hll], fun h0 => ?_, fun x hx => ?_⟩, by rw [hll]; omega⟩
    · rw [hll] at h0
      obtain ⟨h00, _⟩ := (hV 0 h0).2
      have hs := World.cell?_spot h00
      have e0 : a'.add (0 * 6) = a' := by simp [Addr.add]
      rw [e0] at hs
      obtain ⟨b, o, sp⟩ := a'
      simp only at hs
      subst hs
      refine ⟨b, o, rfl, fun i x hi => ?_⟩
      have hil : i < len := by
        have := (List.getElem?_eq_some_iff.1 hi).1
        simpa using this
      have hx : x = V i := by
        rw [List.getElem?_map, List.getElem?_range hil] at hi
        exact (Option.some.inj hi).symm
      subst hx
      have h6 := (hV i hil).2
      unfold w6 at h6
      simp only [Addr.add_lit] at h6
      exact h6
    · obtain ⟨i, hi, rfl⟩ := List.mem_map.1 hx
      exact (hV i (List.mem_range.1 hi)).1
end

/-- Are things few, and short? -/
def lit (l : List PD) : Bool := decide (l.length ≤ 40) && l.all fun x => decide (x.T.size ≤ 60)

theorem lit_long {l : List PD} (h : ¬ l.length ≤ 40) : lit l = false := by
  unfold lit
  rw [decide_eq_false h]
  rfl
theorem lit_at {l : List PD} {i : Nat} {x : PD} (hi : l[i]? = some x) (h : ¬ x.T.size ≤ 60) : lit l = false := by
  unfold lit
  rw [Bool.and_eq_false_iff]
  refine .inr ?_
  rw [List.all_eq_false]
  exact ⟨x, List.mem_of_getElem? hi, by simpa using h⟩
theorem lit_all {l : List PD} (h1 : l.length ≤ 40) (h : ∀ (i : Nat) (x : PD), l[i]? = some x → x.T.size ≤ 60) : lit l = true := by
  unfold lit
  rw [Bool.and_eq_true, List.all_eq_true]
  refine ⟨by simpa using h1, fun x hx => ?_⟩
  obtain ⟨i, hi⟩ := List.mem_iff_getElem?.1 hx
  simpa using h i x hi
theorem lit_use {l : List PD} (h : lit l = true) : l.length ≤ 40 ∧ ∀ x ∈ l, x.T.size ≤ 60 := by
  unfold lit at h
  rw [Bool.and_eq_true, List.all_eq_true] at h
  exact ⟨by simpa using h.1, fun x hx => by simpa using h.2 x hx⟩

theorem ret_bool {a b : Bool} (h : a = b) : Ending.returned (.bool a) = .returned (.bool b) := by rw [h]

set_option maxRecDepth 100000 in
set_option maxHeartbeats 1000000 in
theorem light_any (v : Value) (l : List PD) (w : World) (h : PSl w v l) (hlen : l.length ≤ maxLen) :
    Calls Try.prog 15 #[v] w fun e w' => e = .returned (.bool (lit l)) ∧ w = w' := by
  have HP := Lib.hid h
  obtain ⟨A, c, hv, _⟩ := h
  subst hv
  unfold maxLen at hlen
  by_cases h40 : l.length ≤ 40
  · go_enter Try.func15, Try.ntmps15
    go_wp2
    go_loop [3] (fun x => ∃ k : Nat, x = .int .i64 k ∧ k ≤ l.length ∧ Hid (∀ (i : Nat) (x : PD), i < k → l[i]? = some x → x.T.size ≤ 60)) (fun x => l.length - (intOf x).toNat)
    case atStart => exact ⟨0, rfl, Nat.zero_le _, fun i x hi => absurd hi (by omega)⟩
    case round =>
      obtain ⟨k, rfl, hk, HK⟩ := hrel
      by_cases hlt : k < l.length
      · obtain ⟨x, hx⟩ : ∃ x, l[k]? = some x := ⟨_, List.getElem?_eq_getElem hlt⟩
        obtain ⟨b, o, hA, hat, hfit⟩ := HP.out.at hx
        subst hA
        have hc := hat.2.2.2.2.1
        have hm : x.T.size ≤ 9223372036854775807 := by have := hfit.2.2.2; unfold maxLen at this; omega
        have HX := Lib.hid hx
        clear hat hfit hx
        by_cases h60 : x.T.size ≤ 60
        · go_wp2
          go_round
          case rel => exact ⟨k + 1, by go_num, by omega, fun i y hi hy => by
            by_cases e : i = k
            · subst e
              have : y = x := Option.some.inj (hy.symm.trans HX.out)
              rw [this]
              exact h60
            · exact HK.out i y (by omega) hy⟩
          case measure => simp [intOf]; omega
        · go_wp2
          go_ret
          exact ⟨ret_bool (lit_at HX.out h60).symm, rfl⟩
      · go_wp2
        go_ret
        exact ⟨ret_bool (lit_all h40 (fun i x hi => HK.out i x (by have := (List.getElem?_eq_some_iff.1 hi).1; omega) hi)).symm, rfl⟩
  · go_enter Try.func15, Try.ntmps15
    go_wp2
    go_ret
    exact ⟨ret_bool (lit_long h40).symm, rfl⟩

end Go.Proofs.Ytjanmiafnldkgaa
