/-
  Texts laid one behind the other: Q3s Q3t Gb Hbp Hcp Hdp Hep Hfp.
-/
import Derived.Test.YtclljogbingjiaaJocag
import Derived.Test.YtclljogbingjiaaJocah
import Derived.Test.YtclljogbingjiaaJocac
import Derived.Test.YtclljogbingjiaaJocad
import Derived.Test.YtclljogbingjiaaJocaa
import Derived.BigQuiet
import Derived.Deep.RegionHeld3
import Derived.Laws.ResultCell

/-
  Stage 15: DiskNils, of any program that answers so when its disk is nil (Nil15).
-/
namespace Go.Proofs.Ytclljogbingjiaa
open Go.RowKit

set_option maxRecDepth 100000

/-- What a nil disk says. -/
structure Nil15 : Prop where
  app : ∀ (n : List UInt8) w, Calls Try.prog 21 #[.pointer none, sv15 n, .slice none 0 0] w fun e w' => SaysP15 w (.int .i64 1) e w'
  sync : ∀ (n : List UInt8) w, Calls Try.prog 23 #[.pointer none, sv15 n] w fun e w' => SaysP15 w (.int .i64 1) e w'
  ren : ∀ (n m : List UInt8) w, Calls Try.prog 26 #[.pointer none, sv15 n, sv15 m] w fun e w' => SaysP15 w (.int .i64 1) e w'
  rem : ∀ (n : List UInt8) w, Calls Try.prog 27 #[.pointer none, sv15 n] w fun e w' => SaysP15 w (.int .i64 1) e w'
  read : ∀ (n : List UInt8) w, Calls Try.prog 25 #[.pointer none, sv15 n] w fun e w' => ReadP15 w ([], 1) e w'
  arm : ∀ (n : Int) w, Calls Try.prog 22 #[.pointer none, .int .i64 n] w fun e w' => SaysP15 w (.int .i64 1) e w'
  crash : ∀ (n : Int) w, Calls Try.prog 24 #[.pointer none, .int .i64 n] w fun e w' => SaysP15 w (.tuple #[]) e w'
  down : ∀ w, Calls Try.prog 11 #[.pointer none] w fun e w' => SaysP15 w (.bool false) e w'
  bytes : ∀ w, Calls Try.prog 12 #[.pointer none] w fun e w' => SaysP15 w (.int .i64 0) e w'
  has : ∀ (n : List UInt8) w, Calls Try.prog 14 #[.pointer none, sv15 n] w fun e w' => SaysP15 w (.bool false) e w'
  loose : ∀ (n : List UInt8) w, Calls Try.prog 16 #[.pointer none, sv15 n] w fun e w' => SaysP15 w (.int .i64 0) e w'
  names : ∀ w, Calls Try.prog 19 #[.pointer none] w fun e w' => Names15 w [] e w'

set_option maxHeartbeats 16000000 in
theorem nils_any15 (M : World → (Nat → Prop) → Nat → D15 → Prop) (hP : Prog15 M) (hN : Nil15) (nm : List UInt8) (n : Int) (w : World) :
    Calls Try.prog 6 #[sv15 nm, .int .i64 n] w fun e w' => e = .returned (.bool true) ∧ Turn (fun _ => False) w w' := by
  have HN := Lib.hid hN
  have HAL : Hid (∀ W, Calls Try.prog 8 #[] W fun e w' => e = .returned (.bool true) ∧ Turn (fun _ => False) W w') := fun W => alive_any15 M hP W
  clear hP hN
  have HT0 : Hid (Turn (fun _ => False) w w) := Turn.refl _ _
  go_enter Try.func6, Try.ntmps6
  go_wp2_with fail
  refine (HN.out.crash _ _).mono ?_
  rintro e w1 ⟨rfl, t1⟩
  have HT1 := Lib.hid (HT0.out.trans t1 (fun _ _ f => f))
  clear t1 HT0
  go_wp2_with fail
  refine (HN.out.read _ _).mono ?_
  rintro e w2 ⟨v, rfl, hv, t2⟩
  have HT2 := Lib.hid (HT1.out.trans t2 (fun _ _ f => f))
  obtain ⟨A, c, rfl⟩ := hv.shape
  clear t2 hv HT1
  go_wp2_with fail
  refine (HN.out.app _ _).mono ?_
  rintro e w3 ⟨rfl, t3⟩
  have HT3 := Lib.hid (HT2.out.trans t3 (fun _ _ f => f))
  clear t3 HT2
  go_wp2_with fail
  refine (HN.out.sync _ _).mono ?_
  rintro e w4 ⟨rfl, t4⟩
  have HT4 := Lib.hid (HT3.out.trans t4 (fun _ _ f => f))
  clear t4 HT3
  go_wp2_with fail
  refine (HN.out.ren _ _ _).mono ?_
  rintro e w5 ⟨rfl, t5⟩
  have HT5 := Lib.hid (HT4.out.trans t5 (fun _ _ f => f))
  clear t5 HT4
  go_wp2_with fail
  refine (HN.out.rem _ _).mono ?_
  rintro e w6 ⟨rfl, t6⟩
  have HT6 := Lib.hid (HT5.out.trans t6 (fun _ _ f => f))
  clear t6 HT5
  go_wp2_with fail
  refine (HN.out.arm _ _).mono ?_
  rintro e w7 ⟨rfl, t7⟩
  have HT7 := Lib.hid (HT6.out.trans t7 (fun _ _ f => f))
  clear t7 HT6
  go_wp2_with fail
  refine (HN.out.down _).mono ?_
  rintro e w8 ⟨rfl, t8⟩
  have HT8 := Lib.hid (HT7.out.trans t8 (fun _ _ f => f))
  clear t8 HT7
  go_wp2_with fail
  refine (HN.out.has _ _).mono ?_
  rintro e w9 ⟨rfl, t9⟩
  have HT9 := Lib.hid (HT8.out.trans t9 (fun _ _ f => f))
  clear t9 HT8
  go_wp2_with fail
  refine (HN.out.names _).mono ?_
  rintro e w10 ⟨u, rfl, hu, t10⟩
  obtain ⟨B, d, rfl⟩ := hu.shape
  have HT10 := Lib.hid (HT9.out.trans t10 (fun _ _ f => f))
  clear t10 hu HT9
  go_wp2_with fail
  refine (HN.out.bytes _).mono ?_
  rintro e w11 ⟨rfl, t11⟩
  have HT11 := Lib.hid (HT10.out.trans t11 (fun _ _ f => f))
  clear t11 HT10
  go_wp2_with fail
  refine (HN.out.loose _ _).mono ?_
  rintro e w12 ⟨rfl, t12⟩
  have HT12 := Lib.hid (HT11.out.trans t12 (fun _ _ f => f))
  clear t12 HT11
  go_wp2_with fail
  refine (HAL.out _).mono ?_
  rintro e wz ⟨rfl, tz⟩
  have HTZ := Lib.hid (HT12.out.trans tz (fun _ _ f => f))
  clear tz
  go_wp2
  go_ret
  exact ⟨rfl, HTZ.out⟩

end Go.Proofs.Ytclljogbingjiaa

/-
  Stage 15: flags that came in.
-/
namespace Go.Proofs.Ytclljogbingjiaa
open Go.RowKit Go.ChangeShapes Go.WideShapes Go.Deep

theorem open_flag15 {H : Type} {enc : TypeId × Value → H} {W : World} (n : Nat) (cs : List Value) (y : DataW H × List MemPlace) (hl : cs.length = EB15.sz) (h : DataW.trod enc Try.prog W 0 (fun _ => true) true n 4 cs = some y) :
    ∃ x, cs = EB15.enc x ∧ True := by
  match cs, hl with
  | [c0], _ =>
    obtain ⟨b, k0, _⟩ := DataW.trod_bool Try.underlying4 h
    simp only [List.cons.injEq, and_true] at k0
    subst k0
    exact ⟨b, rfl, trivial⟩
theorem open_flags15 {H : Type} {enc : TypeId × Value → H} {W : World} {v : Value} {d : DataW H} {p : List MemPlace} {a : Option Addr} {len cap : Nat} (hv : v = .slice a len cap)
    (h : DataW.Trod enc Try.prog W 0 (fun _ => true) true 46 v d p) : ∃ l : List Bool, RdE EB15 W v l ∧ l.length ≤ maxLen ∧ ∀ x ∈ l, True :=
  open_elems EB15 (fun _ => True) Try.underlying46 (by kernel_rfl) hv h open_flag15

end Go.Proofs.Ytclljogbingjiaa

/-
  The document's map of numbers and texts, in memory.
-/
namespace Go.Proofs.Ytclljogbingjiaa
open Go.RowKit

/-- A number and a text, as a pair's cells. -/
def EP : El (Int × List UInt8) where
  sz := 2
  enc p := [.int .i64 p.1, .string ⟨p.2.toArray⟩]
  len _ := rfl
  one p u hu := by
    rcases List.mem_cons.1 hu with rfl | hu
    · rfl
    · rw [List.mem_singleton.1 hu]; rfl
def ltI (a b : Int) : Bool := decide (a < b)
theorem rises_ltI : Rises ltI := rises_int
theorem has_at {L : List (Int × List UInt8)} {k : Int} {i : Nat} {p : Int × List UInt8} (h : plc ltI L k = i) (hp : L[i]? = some p) : hasK ltI L k = decide (p.1 = k) := by
  unfold hasK
  rw [h, hp]
theorem has_not {L : List (Int × List UInt8)} {k : Int} {i : Nat} (h : plc ltI L k = i) (hi : L.length ≤ i) : hasK ltI L k = false := by
  unfold hasK
  rw [h, List.getElem?_eq_none hi]

end Go.Proofs.Ytclljogbingjiaa

/-
  Nodes of a tree: their order, their count, a node over two trees (keys string, values *disk.file).
-/
namespace Go.Proofs.Ytclljogbingjiaa.omp
open Go.RowKit

def eK (k : (List UInt8)) : Value := (.string ⟨k.toArray⟩)
def eV (v : (Option Addr)) : Value := (.pointer v)
/-- The tree x lies at p. -/
abbrev Nd (w : World) (x : Tr (List UInt8) (Option Addr)) (p : Value) : Prop := TreeAt 93 eK eV w x p
/-- A node's own cells. -/
def One (w : World) (g : Nat) (k : (List UInt8)) (v : (Option Addr)) (pl pr : Value) (n : Nat) : Prop := Box w g 93 #[(.string ⟨k.toArray⟩), (.pointer v), pl, pr, .int .i64 (n : Int)]
theorem One.later {w w' : World} {g : Nat} {k : (List UInt8)} {v : (Option Addr)} {pl pr : Value} {n : Nat} (h : One w g k v pl pr n) (ht : Turn (fun _ => False) w w') : One w' g k v pl pr n := Box.turn h ht (fun f => f)
theorem One.cells {w : World} {g : Nat} {k : (List UInt8)} {v : (Option Addr)} {pl pr : Value} {n : Nat} (h : One w g k v pl pr n) :
    w.cell? ⟨g, 0, none⟩ = some (.string ⟨k.toArray⟩) ∧ w.cell? ⟨g, 1, none⟩ = some (.pointer v) ∧ w.cell? ⟨g, 2, none⟩ = some pl ∧ w.cell? ⟨g, 3, none⟩ = some pr ∧ w.cell? ⟨g, 4, none⟩ = some (.int .i64 (n : Int)) :=
  ⟨Box.cell h 0, Box.cell h 1, Box.cell h 2, Box.cell h 3, Box.cell h 4⟩
theorem nd_node {w : World} {l r : Tr (List UInt8) (Option Addr)} {k : (List UInt8)} {v : (Option Addr)} {p : Value} (h : Nd w (.node l k v r) p) : ∃ g pl pr, p = .pointer (some ⟨g, 0, none⟩) ∧ One w g k v pl pr (l.cnt + r.cnt + 1) ∧ Nd w l pl ∧ Nd w r pr := h

set_option maxRecDepth 100000 in
theorem nan_any (a : (List UInt8)) (w : World) : Calls Try.prog 72 #[(.string ⟨a.toArray⟩)] w fun e w' => e = .returned (.bool false) ∧ w = w' := by
  go_enter Try.func72, Try.ntmps72
  go_wp2
  go_ret
  exact ⟨by simp, rfl⟩

set_option maxRecDepth 100000 in
theorem less_any (a b : (List UInt8)) (w : World) : Calls Try.prog 65 #[(.string ⟨a.toArray⟩), (.string ⟨b.toArray⟩)] w fun e w' => e = .returned (.bool (Op.bytesLess a b)) ∧ w = w' := by
  go_enter Try.func65, Try.ntmps65
  go_wp2_with (go_at_call 72; refine (nan_any _ _).mono ?_; rintro e w' ⟨rfl, rfl⟩)
  go_ret
  exact ⟨by first | rfl | simp [ltI], rfl⟩

/-- What Compare answers. -/
def ord (a b : (List UInt8)) : Int := if Op.bytesLess a b then -1 else if Op.bytesLess b a then 1 else 0
theorem ord_lt {a b : (List UInt8)} (h : Op.bytesLess a b = true) : ord a b = -1 := if_pos h
theorem ord_gt {a b : (List UInt8)} (h : Op.bytesLess b a = true) : ord a b = 1 := by unfold ord; rw [if_neg (by rw [not_lt_of rises_bytes h]; simp), if_pos h]
theorem ord_eq (a : (List UInt8)) : ord a a = 0 := by unfold ord; rw [if_neg (by rw [rises_bytes.irr]; simp), if_neg (by rw [rises_bytes.irr]; simp)]

set_option maxRecDepth 100000 in
theorem compare_any (a b : (List UInt8)) (w : World) : Calls Try.prog 66 #[(.string ⟨a.toArray⟩), (.string ⟨b.toArray⟩)] w fun e w' => e = .returned (.int .i64 (ord a b)) ∧ w = w' := by
  by_cases h1 : Op.bytesLess a b = true
  · rw [ord_lt h1]
    go_enter Try.func66, Try.ntmps66
    go_wp2_with (go_at_call 72; refine (nan_any _ _).mono ?_; rintro e w' ⟨rfl, rfl⟩)
    all_goals go_ret
    exact ⟨rfl, rfl⟩
  · have h1 : Op.bytesLess a b = false := by simpa using h1
    by_cases h2 : a = b
    · subst h2
      rw [ord_eq]
      have h2 : (a == a) = true := by simp
      go_enter Try.func66, Try.ntmps66
      go_wp2_with (go_at_call 72; refine (nan_any _ _).mono ?_; rintro e w' ⟨rfl, rfl⟩)
      all_goals go_ret
      exact ⟨rfl, rfl⟩
    · rw [ord_gt (rises_bytes.tot _ _ h2 h1)]
      have h3 : (a == b) = false := beq_eq_false_iff_ne.2 h2
      go_enter Try.func66, Try.ntmps66
      go_wp2_with (go_at_call 72; refine (nan_any _ _).mono ?_; rintro e w' ⟨rfl, rfl⟩)
      all_goals go_ret
      exact ⟨rfl, rfl⟩

set_option maxRecDepth 100000 in
theorem count_any {x : Tr (List UInt8) (Option Addr)} {w : World} {p : Value} (h : Nd w x p) : Calls Try.prog 59 #[p] w fun e w' => e = .returned (.int .i64 (x.cnt : Int)) ∧ w = w' := by
  cases x with
  | nil =>
    obtain rfl : p = .pointer none := h
    go_enter Try.func59, Try.ntmps59
    go_wp2
    go_ret
    exact ⟨rfl, rfl⟩
  | node l k v r =>
    obtain ⟨g, pl, pr, rfl, hb, hl, hr⟩ := nd_node h
    have hc := hb.cells.2.2.2.2
    show Calls _ _ _ _ fun e w' => e = .returned (.int .i64 ((l.cnt + r.cnt + 1 : Nat) : Int)) ∧ w = w'
    generalize l.cnt + r.cnt + 1 = n at *
    clear h hb hl hr
    go_enter Try.func59, Try.ntmps59
    go_wp2
    go_ret
    exact ⟨rfl, rfl⟩

/-- The behaviour of what answers a tree, new since w, whose list is L. -/
def Tree (w w' : World) (e : Ending) (x : Tr (List UInt8) (Option Addr)) : Prop := ∃ g, e = .returned (.pointer (some ⟨g, 0, none⟩)) ∧ Nd w' x (.pointer (some ⟨g, 0, none⟩)) ∧ Turn (fun _ => False) w w'

set_option maxRecDepth 100000 in
set_option maxHeartbeats 1000000 in
theorem over_any {l r : Tr (List UInt8) (Option Addr)} {w : World} {g : Nat} {k : (List UInt8)} {v : (Option Addr)} {ql qr pl pr : Value} {n : Nat} (h : One w g k v ql qr n) (hl : Nd w l pl) (hr : Nd w r pr) (hs : l.cnt + r.cnt ≤ 1000000000) :
    Calls Try.prog 67 #[.pointer (some ⟨g, 0, none⟩), pl, pr] w fun e w' => Tree w w' e (.node l k v r) := by
  have HL := Lib.hid hl
  have HR := Lib.hid hr
  obtain ⟨hc0, hc1, -, -, -⟩ := (h.later (Turn.refl _ w).drew).cells
  obtain ⟨pl, rfl⟩ := hl.shape
  obtain ⟨pr, rfl⟩ := hr.shape
  have hw1 : IntKind.i64.wrap ((l.cnt : Int) + (r.cnt : Int)) = (l.cnt : Int) + (r.cnt : Int) := IntWalk.i64_in _ (by omega)
  have hw2 : IntKind.i64.wrap ((l.cnt : Int) + (r.cnt : Int) + 1) = (l.cnt : Int) + (r.cnt : Int) + 1 := IntWalk.i64_in _ (by omega)
  clear hl hr
  go_enter Try.func67, Try.ntmps67
  go_wp2_with fail
  have HO := Lib.hid h; clear h
  have hc0' := hc0; have hc1' := hc1
  go_region_held3 (fun W => W.cell? ⟨g, 0, none⟩ = some (.string ⟨k.toArray⟩) ∧ W.cell? ⟨g, 1, none⟩ = some (.pointer v)) (first | exact ⟨hc0, hc1⟩ | exact ⟨((HO.out.later (Turn.refl _ w).drew).later ((Turn.refl _ _).alloc _)).cells.1, ((HO.out.later (Turn.refl _ w).drew).later ((Turn.refl _ _).alloc _)).cells.2.1⟩)
    (first
      | (go_at_call 59; with_reducible refine (count_any (p := .pointer pl) (HL.out.later (Turn.refl _ w).drew)).mono ?_; rintro e w' ⟨rfl, rfl⟩)
      | (go_at_call 59; with_reducible refine (count_any (p := .pointer pr) (HR.out.later (Turn.refl _ w).drew)).mono ?_; rintro e w' ⟨rfl, rfl⟩)
      | fail)
  all_goals go_wp2
  all_goals go_ret
  all_goals exact ⟨w.heap.size, rfl, ⟨w.heap.size, .pointer pl, .pointer pr, rfl, by have := Box.new w.drew 93 #[(.string ⟨k.toArray⟩), (.pointer v), .pointer pl, .pointer pr, .int .i64 ((l.cnt : Int) + (r.cnt : Int) + 1)]; exact this, HL.out.later ((Turn.refl _ w).drew.alloc _), HR.out.later ((Turn.refl _ w).drew.alloc _)⟩, (Turn.refl _ w).drew.alloc _⟩

end Go.Proofs.Ytclljogbingjiaa.omp

/-
  A tree that is turned where one side is too heavy (keys string, values *disk.file).
-/
namespace Go.Proofs.Ytclljogbingjiaa.omp
open Go.RowKit

/-- A tree with the same list. -/
def Same' (w w' : World) (e : Ending) (x : Tr (List UInt8) (Option Addr)) : Prop := ∃ y : Tr (List UInt8) (Option Addr), y.flat = x.flat ∧ Tree w w' e y
theorem same_of {w w0 w' : World} {e : Ending} {x y : Tr (List UInt8) (Option Addr)} (h : Tree w0 w' e y) (ht : Turn (fun _ => False) w w0) (hf : y.flat = x.flat) : Same' w w' e x := by
  obtain ⟨g, h1, h2, h3⟩ := h
  exact ⟨y, hf, g, h1, h2, ht.trans h3 (fun _ _ f => f)⟩
theorem keeps {w : World} {x : Tr (List UInt8) (Option Addr)} {p : Value} (h : Nd w x p) : Hid (∀ W, Turn (fun _ => False) w W → Nd W x p) := fun _ ht => h.later ht
theorem keep1 {w : World} {g : Nat} {k : (List UInt8)} {v : (Option Addr)} {pl pr : Value} {n : Nat} (h : One w g k v pl pr n) : Hid (∀ W, Turn (fun _ => False) w W → One W g k v pl pr n) := fun _ ht => h.later ht
theorem flat_node (l : Tr (List UInt8) (Option Addr)) (k : (List UInt8)) (v : (Option Addr)) (r : Tr (List UInt8) (Option Addr)) : (Tr.node l k v r).flat = l.flat ++ (k, v) :: r.flat := rfl
theorem cnt_node (l : Tr (List UInt8) (Option Addr)) (k : (List UInt8)) (v : (Option Addr)) (r : Tr (List UInt8) (Option Addr)) : (Tr.node l k v r).cnt = l.cnt + r.cnt + 1 := rfl

set_option maxRecDepth 100000 in
set_option maxHeartbeats 2000000 in
theorem turnLeft_any {l a b : Tr (List UInt8) (Option Addr)} {k k2 : (List UInt8)} {v v2 : (Option Addr)} {w : World} {p : Value} (h : Nd w (.node l k v (.node a k2 v2 b)) p) (hs : l.cnt + (a.cnt + b.cnt) ≤ 1000000) :
    Calls Try.prog 73 #[p] w fun e w' => Same' w w' e (.node l k v (.node a k2 v2 b)) := by
  obtain ⟨g, pl, pr, rfl, hg, hl, hr⟩ := nd_node h
  obtain ⟨u, pa, pb, rfl, hu, ha, hb⟩ := nd_node hr
  have HG := keep1 hg; have HU := keep1 hu; have HL := keeps hl; have HA := keeps ha; have HB := keeps hb
  obtain ⟨pl, rfl⟩ := hl.shape
  obtain ⟨pa, rfl⟩ := ha.shape
  obtain ⟨pb, rfl⟩ := hb.shape
  obtain ⟨-, -, c2, c3, -⟩ := hg.cells
  obtain ⟨-, -, d2, d3, -⟩ := hu.cells
  have HCA : Hid (∀ W, Turn (fun _ => False) w W → Calls Try.prog 59 #[.pointer pa] W fun e w' => e = .returned (.int .i64 (a.cnt : Int)) ∧ W = w') := fun W ht => count_any (HA.out W ht)
  have HCB : Hid (∀ W, Turn (fun _ => False) w W → Calls Try.prog 59 #[.pointer pb] W fun e w' => e = .returned (.int .i64 (b.cnt : Int)) ∧ W = w') := fun W ht => count_any (HB.out W ht)
  clear h hg hl hr hu ha hb
  by_cases hc : a.cnt + 1 < 2 * (b.cnt + 1)
  · have hc' : (a.cnt : Int) + 1 < 2 * ((b.cnt : Int) + 1) := by omega
    go_enter Try.func73, Try.ntmps73
    go_wp2_with fail
    go_quiet (first
      | (go_at_call 59; with_reducible exact quiet_left (HCA.out _ ((Turn.refl _ w).drewN _)))
      | (go_at_call 59; with_reducible exact quiet_left (HCB.out _ ((Turn.refl _ w).drewN _))))
    go_wp2_with fail
    have HK : Hid (∀ W, Turn (fun _ => False) w W → (W.cell? ⟨g, 2, none⟩ = some (.pointer pl) ∧ W.cell? ⟨u, 2, none⟩ = some (.pointer pa) ∧ W.cell? ⟨u, 3, none⟩ = some (.pointer pb)) ∧ Turn (fun _ => False) w W) :=
      fun W ht => ⟨⟨(HG.out W ht).cells.2.2.1, (HU.out W ht).cells.2.2.1, (HU.out W ht).cells.2.2.2.1⟩, ht⟩
    go_region_held3 (fun W => (W.cell? ⟨g, 2, none⟩ = some (.pointer pl) ∧ W.cell? ⟨u, 2, none⟩ = some (.pointer pa) ∧ W.cell? ⟨u, 3, none⟩ = some (.pointer pb)) ∧ Turn (fun _ => False) w W)
      ((refine HK.out _ ?_; repeat (first | with_reducible exact Turn.refl _ w | with_reducible exact HT2.out | with_reducible exact HT.out | with_reducible refine Turn.drew ?_ | with_reducible refine Turn.drewN ?_ _)))
      (first
        | (go_at_call 67; (with_reducible refine (over_any (g := g) (pl := .pointer pl) (pr := .pointer pa) (HG.out _ ?_) (HL.out _ ?_) (HA.out _ ?_) ?_).mono ?_); exact (Turn.refl _ w).drewN _; exact (Turn.refl _ w).drewN _; exact (Turn.refl _ w).drewN _; (focus (omega)); rintro e w2 ⟨q, rfl, hn, ht⟩; have HT := Lib.hid (((Turn.refl _ w).drewN _).trans ht (fun _ _ f => f)); have HN := Lib.hid hn; clear hn ht)
        | (go_at_call 67; (with_reducible refine (over_any (g := u) (pr := .pointer pb) (HU.out _ ?_) HN.out (HB.out _ ?_) ?_).mono ?_); exact HT.out; exact HT.out; (focus (rw [cnt_node]; omega)); rintro e w3 ⟨q2, rfl, hn2, ht2⟩; have HT2 := Lib.hid (HT.out.trans ht2 (fun _ _ f => f)); have HN2 := Lib.hid hn2; clear hn2 ht2)
        | fail)
    all_goals go_wp2
    all_goals go_ret
    all_goals exact ⟨_, by simp [flat_node], q2, rfl, HN2.out, HT2.out⟩
  · have hc' : ¬ (a.cnt : Int) + 1 < 2 * ((b.cnt : Int) + 1) := by omega
    cases a with
    | nil => exact absurd (show (0 : Nat) + 1 < 2 * (b.cnt + 1) by omega) hc
    | node c k3 v3 d =>
      obtain ⟨t, pc, pd, hpa, ht, hc2, hd2⟩ := nd_node (HA.out w (Turn.refl _ w))
      cases hpa
      have HT3 := keep1 ht; have HC := keeps hc2; have HD := keeps hd2
      obtain ⟨pc, rfl⟩ := hc2.shape
      obtain ⟨pd, rfl⟩ := hd2.shape
      obtain ⟨m, hm⟩ : ∃ m, m = (Tr.node c k3 v3 d).cnt := ⟨_, rfl⟩
      rw [← hm] at hs HCA hc'
      have HM := Lib.hid (hm.trans (cnt_node c k3 v3 d))
      clear ht hc2 hd2 hc hm
      go_enter Try.func73, Try.ntmps73
      go_wp2_with fail
      go_quiet (first
        | (go_at_call 59; with_reducible exact quiet_left (HCA.out _ ((Turn.refl _ w).drewN _)))
        | (go_at_call 59; with_reducible exact quiet_left (HCB.out _ ((Turn.refl _ w).drewN _))))
      have e2 := (HU.out _ ((Turn.refl _ w).drewN nq)).cells.2.2.1
      go_wp2_with fail
      have HK : Hid (∀ W, Turn (fun _ => False) w W → (W.cell? ⟨g, 2, none⟩ = some (.pointer pl) ∧ W.cell? ⟨t, 2, none⟩ = some (.pointer pc) ∧ W.cell? ⟨t, 3, none⟩ = some (.pointer pd) ∧ W.cell? ⟨u, 3, none⟩ = some (.pointer pb)) ∧ Turn (fun _ => False) w W) :=
        fun W ht => ⟨⟨(HG.out W ht).cells.2.2.1, (HT3.out W ht).cells.2.2.1, (HT3.out W ht).cells.2.2.2.1, (HU.out W ht).cells.2.2.2.1⟩, ht⟩
      go_region_held3 (fun W => (W.cell? ⟨g, 2, none⟩ = some (.pointer pl) ∧ W.cell? ⟨t, 2, none⟩ = some (.pointer pc) ∧ W.cell? ⟨t, 3, none⟩ = some (.pointer pd) ∧ W.cell? ⟨u, 3, none⟩ = some (.pointer pb)) ∧ Turn (fun _ => False) w W)
        ((refine HK.out _ ?_; repeat (first | with_reducible exact Turn.refl _ w | with_reducible exact HTC.out | with_reducible exact HTB.out | with_reducible exact HTA.out | with_reducible refine Turn.drew ?_ | with_reducible refine Turn.drewN ?_ _)))
        (first
          | (go_at_call 67; (with_reducible refine (over_any (g := g) (pl := .pointer pl) (pr := .pointer pc) (HG.out _ ?_) (HL.out _ ?_) (HC.out _ ?_) ?_).mono ?_); exact (Turn.refl _ w).drewN _; exact (Turn.refl _ w).drewN _; exact (Turn.refl _ w).drewN _; (focus (have := HM.out; omega)); rintro e w2 ⟨q, rfl, hn, ht⟩; have HTA := Lib.hid (((Turn.refl _ w).drewN _).trans ht (fun _ _ f => f)); have HNA := Lib.hid hn; clear hn ht)
          | (go_at_call 67; (with_reducible refine (over_any (g := u) (pl := .pointer pd) (pr := .pointer pb) (HU.out _ ?_) (HD.out _ ?_) (HB.out _ ?_) ?_).mono ?_); exact HTA.out; exact HTA.out; exact HTA.out; (focus (have := HM.out; omega)); rintro e w3 ⟨q2, rfl, hn2, ht2⟩; have HTB := Lib.hid (HTA.out.trans ht2 (fun _ _ f => f)); have HNB := Lib.hid hn2; have HNA2 := Lib.hid (HNA.out.later ht2); clear hn2 ht2)
          | (go_at_call 67; (with_reducible refine (over_any (g := t) (HT3.out _ ?_) HNA2.out HNB.out ?_).mono ?_); exact HTB.out; (focus (rw [cnt_node, cnt_node]; have := HM.out; omega)); rintro e w4 ⟨q3, rfl, hn3, ht3⟩; have HTC := Lib.hid (HTB.out.trans ht3 (fun _ _ f => f)); have HNC := Lib.hid hn3; clear hn3 ht3)
          | fail)
      all_goals go_wp2
      all_goals go_ret
      all_goals exact ⟨_, by simp [flat_node], q3, rfl, HNC.out, HTC.out⟩

set_option maxRecDepth 100000 in
set_option maxHeartbeats 2000000 in
theorem turnRight_any {a b r : Tr (List UInt8) (Option Addr)} {k k2 : (List UInt8)} {v v2 : (Option Addr)} {w : World} {p : Value} (h : Nd w (.node (.node a k2 v2 b) k v r) p) (hs : (a.cnt + b.cnt) + r.cnt ≤ 1000000) :
    Calls Try.prog 74 #[p] w fun e w' => Same' w w' e (.node (.node a k2 v2 b) k v r) := by
  obtain ⟨g, pl, pr, rfl, hg, hl, hr⟩ := nd_node h
  obtain ⟨u, pa, pb, rfl, hu, ha, hb⟩ := nd_node hl
  have HG := keep1 hg; have HU := keep1 hu; have HR := keeps hr; have HA := keeps ha; have HB := keeps hb
  obtain ⟨pr, rfl⟩ := hr.shape
  obtain ⟨pa, rfl⟩ := ha.shape
  obtain ⟨pb, rfl⟩ := hb.shape
  obtain ⟨-, -, c2, c3, -⟩ := hg.cells
  obtain ⟨-, -, d2, d3, -⟩ := hu.cells
  have HCA : Hid (∀ W, Turn (fun _ => False) w W → Calls Try.prog 59 #[.pointer pa] W fun e w' => e = .returned (.int .i64 (a.cnt : Int)) ∧ W = w') := fun W ht => count_any (HA.out W ht)
  have HCB : Hid (∀ W, Turn (fun _ => False) w W → Calls Try.prog 59 #[.pointer pb] W fun e w' => e = .returned (.int .i64 (b.cnt : Int)) ∧ W = w') := fun W ht => count_any (HB.out W ht)
  clear h hg hl hr hu ha hb
  by_cases hc : b.cnt + 1 < 2 * (a.cnt + 1)
  · have hc' : (b.cnt : Int) + 1 < 2 * ((a.cnt : Int) + 1) := by omega
    go_enter Try.func74, Try.ntmps74
    go_wp2_with fail
    go_quiet (first
      | (go_at_call 59; with_reducible exact quiet_left (HCA.out _ ((Turn.refl _ w).drewN _)))
      | (go_at_call 59; with_reducible exact quiet_left (HCB.out _ ((Turn.refl _ w).drewN _))))
    go_wp2_with fail
    have HK : Hid (∀ W, Turn (fun _ => False) w W → (W.cell? ⟨u, 2, none⟩ = some (.pointer pa) ∧ W.cell? ⟨u, 3, none⟩ = some (.pointer pb) ∧ W.cell? ⟨g, 3, none⟩ = some (.pointer pr)) ∧ Turn (fun _ => False) w W) :=
      fun W ht => ⟨⟨(HU.out W ht).cells.2.2.1, (HU.out W ht).cells.2.2.2.1, (HG.out W ht).cells.2.2.2.1⟩, ht⟩
    go_region_held3 (fun W => (W.cell? ⟨u, 2, none⟩ = some (.pointer pa) ∧ W.cell? ⟨u, 3, none⟩ = some (.pointer pb) ∧ W.cell? ⟨g, 3, none⟩ = some (.pointer pr)) ∧ Turn (fun _ => False) w W)
      ((refine HK.out _ ?_; repeat (first | with_reducible exact Turn.refl _ w | with_reducible exact HT2.out | with_reducible exact HT.out | with_reducible refine Turn.drew ?_ | with_reducible refine Turn.drewN ?_ _)))
      (first
        | (go_at_call 67; (with_reducible refine (over_any (g := g) (pl := .pointer pb) (pr := .pointer pr) (HG.out _ ?_) (HB.out _ ?_) (HR.out _ ?_) ?_).mono ?_); exact (Turn.refl _ w).drewN _; exact (Turn.refl _ w).drewN _; exact (Turn.refl _ w).drewN _; (focus (omega)); rintro e w2 ⟨q, rfl, hn, ht⟩; have HT := Lib.hid (((Turn.refl _ w).drewN _).trans ht (fun _ _ f => f)); have HN := Lib.hid hn; clear hn ht)
        | (go_at_call 67; (with_reducible refine (over_any (g := u) (pl := .pointer pa) (HU.out _ ?_) (HA.out _ ?_) HN.out ?_).mono ?_); exact HT.out; exact HT.out; (focus (rw [cnt_node]; omega)); rintro e w3 ⟨q2, rfl, hn2, ht2⟩; have HT2 := Lib.hid (HT.out.trans ht2 (fun _ _ f => f)); have HN2 := Lib.hid hn2; clear hn2 ht2)
        | fail)
    all_goals go_wp2
    all_goals go_ret
    all_goals exact ⟨_, by simp [flat_node], q2, rfl, HN2.out, HT2.out⟩
  · have hc' : ¬ (b.cnt : Int) + 1 < 2 * ((a.cnt : Int) + 1) := by omega
    cases b with
    | nil => exact absurd (show (0 : Nat) + 1 < 2 * (a.cnt + 1) by omega) hc
    | node c k3 v3 d =>
      obtain ⟨t, pc, pd, hpa, ht, hc2, hd2⟩ := nd_node (HB.out w (Turn.refl _ w))
      cases hpa
      have HT3 := keep1 ht; have HC := keeps hc2; have HD := keeps hd2
      obtain ⟨pc, rfl⟩ := hc2.shape
      obtain ⟨pd, rfl⟩ := hd2.shape
      obtain ⟨m, hm⟩ : ∃ m, m = (Tr.node c k3 v3 d).cnt := ⟨_, rfl⟩
      rw [← hm] at hs HCB hc'
      have HM := Lib.hid (hm.trans (cnt_node c k3 v3 d))
      clear ht hc2 hd2 hc hm
      go_enter Try.func74, Try.ntmps74
      go_wp2_with fail
      go_quiet (first
        | (go_at_call 59; with_reducible exact quiet_left (HCA.out _ ((Turn.refl _ w).drewN _)))
        | (go_at_call 59; with_reducible exact quiet_left (HCB.out _ ((Turn.refl _ w).drewN _))))
      have e2 := (HU.out _ ((Turn.refl _ w).drewN nq)).cells.2.2.2.1
      go_wp2_with fail
      have HK : Hid (∀ W, Turn (fun _ => False) w W → (W.cell? ⟨u, 2, none⟩ = some (.pointer pa) ∧ W.cell? ⟨t, 2, none⟩ = some (.pointer pc) ∧ W.cell? ⟨t, 3, none⟩ = some (.pointer pd) ∧ W.cell? ⟨g, 3, none⟩ = some (.pointer pr)) ∧ Turn (fun _ => False) w W) :=
        fun W ht => ⟨⟨(HU.out W ht).cells.2.2.1, (HT3.out W ht).cells.2.2.1, (HT3.out W ht).cells.2.2.2.1, (HG.out W ht).cells.2.2.2.1⟩, ht⟩
      go_region_held3 (fun W => (W.cell? ⟨u, 2, none⟩ = some (.pointer pa) ∧ W.cell? ⟨t, 2, none⟩ = some (.pointer pc) ∧ W.cell? ⟨t, 3, none⟩ = some (.pointer pd) ∧ W.cell? ⟨g, 3, none⟩ = some (.pointer pr)) ∧ Turn (fun _ => False) w W)
        ((refine HK.out _ ?_; repeat (first | with_reducible exact Turn.refl _ w | with_reducible exact HTC.out | with_reducible exact HTB.out | with_reducible exact HTA.out | with_reducible refine Turn.drew ?_ | with_reducible refine Turn.drewN ?_ _)))
        (first
          | (go_at_call 67; (with_reducible refine (over_any (g := u) (pl := .pointer pa) (pr := .pointer pc) (HU.out _ ?_) (HA.out _ ?_) (HC.out _ ?_) ?_).mono ?_); exact (Turn.refl _ w).drewN _; exact (Turn.refl _ w).drewN _; exact (Turn.refl _ w).drewN _; (focus (have := HM.out; omega)); rintro e w2 ⟨q, rfl, hn, ht⟩; have HTA := Lib.hid (((Turn.refl _ w).drewN _).trans ht (fun _ _ f => f)); have HNA := Lib.hid hn; clear hn ht)
          | (go_at_call 67; (with_reducible refine (over_any (g := g) (pl := .pointer pd) (pr := .pointer pr) (HG.out _ ?_) (HD.out _ ?_) (HR.out _ ?_) ?_).mono ?_); exact HTA.out; exact HTA.out; exact HTA.out; (focus (have := HM.out; omega)); rintro e w3 ⟨q2, rfl, hn2, ht2⟩; have HTB := Lib.hid (HTA.out.trans ht2 (fun _ _ f => f)); have HNB := Lib.hid hn2; have HNA2 := Lib.hid (HNA.out.later ht2); clear hn2 ht2)
          | (go_at_call 67; (with_reducible refine (over_any (g := t) (HT3.out _ ?_) HNA2.out HNB.out ?_).mono ?_); exact HTB.out; (focus (rw [cnt_node, cnt_node]; have := HM.out; omega)); rintro e w4 ⟨q3, rfl, hn3, ht3⟩; have HTC := Lib.hid (HTB.out.trans ht3 (fun _ _ f => f)); have HNC := Lib.hid hn3; clear hn3 ht3)
          | fail)
      all_goals go_wp2
      all_goals go_ret
      all_goals exact ⟨_, by simp [flat_node], q3, rfl, HNC.out, HTC.out⟩

set_option maxRecDepth 100000 in
set_option maxHeartbeats 2000000 in
theorem even_any {l r : Tr (List UInt8) (Option Addr)} {k : (List UInt8)} {v : (Option Addr)} {w : World} {p : Value} (h : Nd w (.node l k v r) p) (hs : l.cnt + r.cnt ≤ 1000000) :
    Calls Try.prog 68 #[p] w fun e w' => Same' w w' e (.node l k v r) := by
  have HN := keeps h
  obtain ⟨g, pl, pr, rfl, hg, hl, hr⟩ := nd_node h
  have HG := keep1 hg; have HL := keeps hl; have HR := keeps hr
  obtain ⟨pl, rfl⟩ := hl.shape
  obtain ⟨pr, rfl⟩ := hr.shape
  obtain ⟨-, -, c2, c3, -⟩ := hg.cells
  have HCL : Hid (∀ W, Turn (fun _ => False) w W → Calls Try.prog 59 #[.pointer pl] W fun e w' => e = .returned (.int .i64 (l.cnt : Int)) ∧ W = w') := fun W ht => count_any (HL.out W ht)
  have HCR : Hid (∀ W, Turn (fun _ => False) w W → Calls Try.prog 59 #[.pointer pr] W fun e w' => e = .returned (.int .i64 (r.cnt : Int)) ∧ W = w') := fun W ht => count_any (HR.out W ht)
  clear h hg hl hr
  by_cases h1 : 3 * (l.cnt + 1) < r.cnt + 1
  · cases r with
    | nil => exact absurd h1 (by show ¬ 3 * (l.cnt + 1) < 0 + 1; omega)
    | node a k2 v2 b =>
      have HT : Hid (∀ W, Turn (fun _ => False) w W → Calls Try.prog 73 #[.pointer (some ⟨g, 0, none⟩)] W fun e w' => Same' W w' e (.node l k v (.node a k2 v2 b))) := fun W ht => turnLeft_any (HN.out W ht) (by rw [cnt_node] at hs; omega)
      generalize (Tr.node a k2 v2 b) = r at *
      have h1' : 3 * ((l.cnt : Int) + 1) < (r.cnt : Int) + 1 := by omega
      go_enter Try.func68, Try.ntmps68
      go_wp2_with fail
      go_quiet (first
        | (go_at_call 59; with_reducible exact quiet_left (HCL.out _ ((Turn.refl _ w).drewN _)))
        | (go_at_call 59; with_reducible exact quiet_left (HCR.out _ ((Turn.refl _ w).drewN _))))
      go_wp2_with (go_at_call 73; refine (HT.out _ ((Turn.refl _ w).drewN _)).mono ?_; rintro e w' ⟨y, hf, q, rfl, hn, ht⟩; have HF := Lib.hid hf; have HQ := Lib.hid hn; have HTT := Lib.hid ht; clear hf hn ht)
      go_ret
      exact ⟨y, HF.out, q, rfl, HQ.out, ((Turn.refl _ w).drewN _).trans HTT.out (fun _ _ f => f)⟩
  · by_cases h2 : 3 * (r.cnt + 1) < l.cnt + 1
    · cases l with
      | nil => exact absurd h2 (by show ¬ 3 * (r.cnt + 1) < 0 + 1; omega)
      | node a k2 v2 b =>
        have HT : Hid (∀ W, Turn (fun _ => False) w W → Calls Try.prog 74 #[.pointer (some ⟨g, 0, none⟩)] W fun e w' => Same' W w' e (.node (.node a k2 v2 b) k v r)) := fun W ht => turnRight_any (HN.out W ht) (by rw [cnt_node] at hs; omega)
        generalize (Tr.node a k2 v2 b) = l at *
        have h1' : ¬ 3 * ((l.cnt : Int) + 1) < (r.cnt : Int) + 1 := by omega
        have h2' : 3 * ((r.cnt : Int) + 1) < (l.cnt : Int) + 1 := by omega
        go_enter Try.func68, Try.ntmps68
        go_wp2_with fail
        go_quiet (first
          | (go_at_call 59; with_reducible exact quiet_left (HCL.out _ ((Turn.refl _ w).drewN _)))
          | (go_at_call 59; with_reducible exact quiet_left (HCR.out _ ((Turn.refl _ w).drewN _))))
        go_wp2_with (go_at_call 74; refine (HT.out _ ((Turn.refl _ w).drewN _)).mono ?_; rintro e w' ⟨y, hf, q, rfl, hn, ht⟩; have HF := Lib.hid hf; have HQ := Lib.hid hn; have HTT := Lib.hid ht; clear hf hn ht)
        go_ret
        exact ⟨y, HF.out, q, rfl, HQ.out, ((Turn.refl _ w).drewN _).trans HTT.out (fun _ _ f => f)⟩
    · have h1' : ¬ 3 * ((l.cnt : Int) + 1) < (r.cnt : Int) + 1 := by omega
      have h2' : ¬ 3 * ((r.cnt : Int) + 1) < (l.cnt : Int) + 1 := by omega
      go_enter Try.func68, Try.ntmps68
      go_wp2_with fail
      go_quiet (first
        | (go_at_call 59; with_reducible exact quiet_left (HCL.out _ ((Turn.refl _ w).drewN _)))
        | (go_at_call 59; with_reducible exact quiet_left (HCR.out _ ((Turn.refl _ w).drewN _))))
      go_wp2_with fail
      go_ret
      exact ⟨_, rfl, g, rfl, HN.out _ ((Turn.refl _ w).drewN _), (Turn.refl _ w).drewN _⟩

end Go.Proofs.Ytclljogbingjiaa.omp

/-
  A tree in which a key has a value (keys string, values *disk.file).
-/
namespace Go.Proofs.Ytclljogbingjiaa.omp
open Go.RowKit

/-- A tree whose list is L. -/
def Has (w w' : World) (e : Ending) (L : List ((List UInt8) × (Option Addr))) : Prop := ∃ y : Tr (List UInt8) (Option Addr), y.flat = L ∧ Tree w w' e y
theorem same_has {w w' : World} {e : Ending} {x : Tr (List UInt8) (Option Addr)} (h : Same' w w' e x) : Has w w' e x.flat := h
theorem cnt_of {y : Tr (List UInt8) (Option Addr)} {L : List ((List UInt8) × (Option Addr))} (h : y.flat = L) : y.cnt = L.length := by rw [← h, Tr.cnt_flat]
theorem cnt_put {x y : Tr (List UInt8) (Option Addr)} {k : (List UInt8)} {v : (Option Addr)} (h : y.flat = putK Op.bytesLess x.flat k v) : y.cnt ≤ x.cnt + 1 := by
  rw [cnt_of h, put_size, Tr.cnt_flat]
  split <;> omega
theorem cnt_drop {x y : Tr (List UInt8) (Option Addr)} {k : (List UInt8)} (h : y.flat = dropK Op.bytesLess x.flat k) : y.cnt ≤ x.cnt := by
  have := drop_size (lt := Op.bytesLess) x.flat k
  rw [cnt_of h, ← Tr.cnt_flat x]
  omega
theorem keep_call {w : World} {x : Tr (List UInt8) (Option Addr)} {p : Value} (h : Nd w x p) : ∃ A, p = .pointer A := h.shape

set_option maxRecDepth 100000 in
set_option maxHeartbeats 4000000 in
theorem with_any (k : (List UInt8)) (v : (Option Addr)) (x : Tr (List UInt8) (Option Addr)) : ∀ (w : World) (p : Value), Nd w x p → x.cnt ≤ 999999 → Up Op.bytesLess x.flat →
    Calls Try.prog 60 #[p, (.string ⟨k.toArray⟩), (.pointer v)] w fun e w' => Has w w' e (putK Op.bytesLess x.flat k v) := by
  induction x with
  | nil =>
    intro w p h _ _
    obtain rfl : p = .pointer none := h
    go_enter Try.func60, Try.ntmps60
    go_wp2
    go_ret
    exact ⟨.node .nil k v .nil, rfl, w.heap.size, rfl, ⟨w.heap.size, .pointer none, .pointer none, rfl, Box.new w 93 #[(.string ⟨k.toArray⟩), (.pointer v), .pointer none, .pointer none, .int .i64 1], rfl, rfl⟩, (Turn.refl _ w).alloc _⟩
  | node l k0 v0 r ihl ihr =>
    intro w p h hs hu
    obtain ⟨g, pl, pr, rfl, hg, hl, hr⟩ := nd_node h
    have HG := keep1 hg; have HL := keeps hl; have HR := keeps hr
    obtain ⟨pl, rfl⟩ := hl.shape
    obtain ⟨pr, rfl⟩ := hr.shape
    obtain ⟨c0, -, -, -, -⟩ := hg.cells
    obtain ⟨hu1, hu2, hu3⟩ := up_parts hu
    rw [cnt_node] at hs
    clear h hg hl hr hu
    have HK : Hid (∀ W, Turn (fun _ => False) w W → (W.cell? ⟨g, 2, none⟩ = some (.pointer pl) ∧ W.cell? ⟨g, 3, none⟩ = some (.pointer pr)) ∧ Turn (fun _ => False) w W) :=
      fun W ht => ⟨⟨(HG.out W ht).cells.2.2.1, (HG.out W ht).cells.2.2.2.1⟩, ht⟩
    by_cases h1 : Op.bytesLess k k0 = true
    · have hp : putK Op.bytesLess (Tr.node l k0 v0 r).flat k v = putK Op.bytesLess l.flat k v ++ (k0, v0) :: r.flat := put_left rises_bytes (p := (k0, v0)) h1 v r.flat l.flat
      rw [hp]
      have HC : Hid (∀ W, Calls Try.prog 66 #[(.string ⟨k.toArray⟩), (.string ⟨k0.toArray⟩)] W fun e w' => e = .returned (.int .i64 (-1)) ∧ W = w') := fun W => by have := compare_any k k0 W; rw [ord_lt h1] at this; exact this
      have HI : Hid (∀ W, Turn (fun _ => False) w W → Calls Try.prog 60 #[.pointer pl, (.string ⟨k.toArray⟩), (.pointer v)] W fun e w' => Has W w' e (putK Op.bytesLess l.flat k v)) := fun W ht => ihl W _ (HL.out W ht) (by omega) hu1
      clear ihl ihr hu1 hu2 hu3 hp h1
      go_enter Try.func60, Try.ntmps60
      go_wp2_with (go_at_call 66; refine (HC.out _).mono ?_; rintro e w' ⟨rfl, rfl⟩)
      go_region_held3 (fun W => (W.cell? ⟨g, 2, none⟩ = some (.pointer pl) ∧ W.cell? ⟨g, 3, none⟩ = some (.pointer pr)) ∧ Turn (fun _ => False) w W)
        ((refine HK.out _ ?_; repeat (first | with_reducible exact Turn.refl _ w | with_reducible exact HTC.out | with_reducible exact HTB.out | with_reducible exact HTA.out | with_reducible refine Turn.drew ?_ | with_reducible refine Turn.drewN ?_ _)))
        (first
          | (go_at_call 60; (with_reducible refine (HI.out _ ?_).mono ?_); exact (Turn.refl _ w).drew; rintro e w2 ⟨y, hy, q, rfl, hn, ht⟩; have HTA := Lib.hid ((Turn.refl _ w).drew.trans ht (fun _ _ f => f)); have HNA := Lib.hid hn; have HY := Lib.hid hy; clear hn ht hy)
          | (go_at_call 67; (with_reducible refine (over_any (g := g) (pr := .pointer pr) (HG.out _ ?_) HNA.out (HR.out _ ?_) ?_).mono ?_); exact HTA.out; exact HTA.out; (focus (have := cnt_put HY.out; omega)); rintro e w3 ⟨q2, rfl, hn2, ht2⟩; have HTB := Lib.hid (HTA.out.trans ht2 (fun _ _ f => f)); have HNB := Lib.hid hn2; clear hn2 ht2)
          | (go_at_call 68; (with_reducible refine (even_any HNB.out ?_).mono ?_); (focus (have := cnt_put HY.out; omega)); rintro e w4 ⟨z, hz, q3, rfl, hn3, ht3⟩; have HTC := Lib.hid (HTB.out.trans ht3 (fun _ _ f => f)); have HNC := Lib.hid hn3; have HZ := Lib.hid hz; clear hn3 ht3 hz)
          | fail)
      all_goals go_wp2
      all_goals go_ret
      all_goals exact ⟨z, by rw [HZ.out, flat_node, HY.out], q3, rfl, HNC.out, HTC.out⟩
    · by_cases h2 : Op.bytesLess k0 k = true
      · have hp : putK Op.bytesLess (Tr.node l k0 v0 r).flat k v = l.flat ++ (k0, v0) :: putK Op.bytesLess r.flat k v := put_right (p := (k0, v0)) h2 v r.flat l.flat (hu3.tr rises_bytes h2)
        rw [hp]
        have HC : Hid (∀ W, Calls Try.prog 66 #[(.string ⟨k.toArray⟩), (.string ⟨k0.toArray⟩)] W fun e w' => e = .returned (.int .i64 1) ∧ W = w') := fun W => by have := compare_any k k0 W; rw [ord_gt h2] at this; exact this
        have HI : Hid (∀ W, Turn (fun _ => False) w W → Calls Try.prog 60 #[.pointer pr, (.string ⟨k.toArray⟩), (.pointer v)] W fun e w' => Has W w' e (putK Op.bytesLess r.flat k v)) := fun W ht => ihr W _ (HR.out W ht) (by omega) hu2
        clear ihl ihr hu1 hu2 hu3 hp h1 h2
        go_enter Try.func60, Try.ntmps60
        go_wp2_with (go_at_call 66; refine (HC.out _).mono ?_; rintro e w' ⟨rfl, rfl⟩)
        go_region_held3 (fun W => (W.cell? ⟨g, 2, none⟩ = some (.pointer pl) ∧ W.cell? ⟨g, 3, none⟩ = some (.pointer pr)) ∧ Turn (fun _ => False) w W)
          ((refine HK.out _ ?_; repeat (first | with_reducible exact Turn.refl _ w | with_reducible exact HTC.out | with_reducible exact HTB.out | with_reducible exact HTA.out | with_reducible refine Turn.drew ?_ | with_reducible refine Turn.drewN ?_ _)))
          (first
            | (go_at_call 60; (with_reducible refine (HI.out _ ?_).mono ?_); exact (Turn.refl _ w).drew; rintro e w2 ⟨y, hy, q, rfl, hn, ht⟩; have HTA := Lib.hid ((Turn.refl _ w).drew.trans ht (fun _ _ f => f)); have HNA := Lib.hid hn; have HY := Lib.hid hy; clear hn ht hy)
            | (go_at_call 67; (with_reducible refine (over_any (g := g) (pl := .pointer pl) (HG.out _ ?_) (HL.out _ ?_) HNA.out ?_).mono ?_); exact HTA.out; exact HTA.out; (focus (have := cnt_put HY.out; omega)); rintro e w3 ⟨q2, rfl, hn2, ht2⟩; have HTB := Lib.hid (HTA.out.trans ht2 (fun _ _ f => f)); have HNB := Lib.hid hn2; clear hn2 ht2)
            | (go_at_call 68; (with_reducible refine (even_any HNB.out ?_).mono ?_); (focus (have := cnt_put HY.out; omega)); rintro e w4 ⟨z, hz, q3, rfl, hn3, ht3⟩; have HTC := Lib.hid (HTB.out.trans ht3 (fun _ _ f => f)); have HNC := Lib.hid hn3; have HZ := Lib.hid hz; clear hn3 ht3 hz)
            | fail)
        all_goals go_wp2
        all_goals go_ret
        all_goals exact ⟨z, by rw [HZ.out, flat_node, HY.out], q3, rfl, HNC.out, HTC.out⟩
      · have he : k0 = k := by
          by_cases e : k0 = k
          · exact e
          · exact absurd (rises_bytes.tot _ _ e (by simpa using h2)) h1
        subst he
        have hp : putK Op.bytesLess (Tr.node l k0 v0 r).flat k0 v = l.flat ++ (k0, v) :: r.flat := put_same rises_bytes (p := (k0, v0)) v r.flat l.flat hu3
        rw [hp]
        have HC : Hid (∀ W, Calls Try.prog 66 #[(.string ⟨k0.toArray⟩), (.string ⟨k0.toArray⟩)] W fun e w' => e = .returned (.int .i64 0) ∧ W = w') := fun W => by have := compare_any k0 k0 W; rw [ord_eq] at this; exact this
        clear ihl ihr hu1 hu2 hu3 hp h1 h2
        have HSZ : Hid (∀ W, Turn (fun _ => False) w W → W.cell? ⟨g, 4, none⟩ = some (.int .i64 ((l.cnt + r.cnt + 1 : Nat) : Int))) := fun W ht => (HG.out W ht).cells.2.2.2.2
        obtain ⟨m, hm⟩ : ∃ m, m = l.cnt + r.cnt + 1 := ⟨_, rfl⟩
        rw [← hm] at HSZ
        have HM := Lib.hid hm; clear hm
        have c2 := (HK.out _ (Turn.refl _ w).drew).1.1
        have c3 := (HK.out _ (Turn.refl _ w).drew).1.2
        have c4 := HSZ.out _ (Turn.refl _ w).drew
        go_enter Try.func60, Try.ntmps60
        go_wp2_with (go_at_call 66; refine (HC.out _).mono ?_; rintro e w' ⟨rfl, rfl⟩)
        go_region
        all_goals go_wp2
        all_goals go_ret
        all_goals exact ⟨.node l k0 v r, rfl, w.heap.size, rfl, ⟨w.heap.size, .pointer pl, .pointer pr, rfl, by rw [← HM.out]; exact Box.new w.drew 93 #[(.string ⟨k0.toArray⟩), (.pointer v), .pointer pl, .pointer pr, .int .i64 (m : Int)], HL.out _ ((Turn.refl _ w).drew.alloc _), HR.out _ ((Turn.refl _ w).drew.alloc _)⟩, (Turn.refl _ w).drew.alloc _⟩

end Go.Proofs.Ytclljogbingjiaa.omp

/-
  A tree's least key; a tree in which a key has no value (keys string, values *disk.file).
-/
namespace Go.Proofs.Ytclljogbingjiaa.omp
open Go.RowKit

/-- A tree, perhaps empty, whose list is L. -/
def Has0 (w w' : World) (e : Ending) (L : List ((List UInt8) × (Option Addr))) : Prop := ∃ (y : Tr (List UInt8) (Option Addr)) (A : Option Addr), y.flat = L ∧ e = .returned (.pointer A) ∧ Nd w' y (.pointer A) ∧ Turn (fun _ => False) w w'
/-- How many nodes a tree has, as its top says. -/
def szAt (w : World) : Value → Nat
  | .pointer (some a) => match w.cell? ⟨a.block, 4, none⟩ with
    | some (.int _ n) => n.toNat
    | _ => 0
  | _ => 0
theorem sz_is {w : World} {x : Tr (List UInt8) (Option Addr)} {p : Value} (h : Nd w x p) : szAt w p = x.cnt := by
  cases x with
  | nil => obtain rfl : p = .pointer none := h; rfl
  | node l k v r =>
    obtain ⟨g, pl, pr, rfl, hg, _, _⟩ := nd_node h
    unfold szAt
    dsimp only
    rw [hg.cells.2.2.2.2]
    rfl

/-- A node with the least key of a tree. -/
def Least (w : World) (x : Tr (List UInt8) (Option Addr)) (p : Value) : Prop := ∃ g k v pl pr n rest, p = .pointer (some ⟨g, 0, none⟩) ∧ One w g k v pl pr n ∧ x.flat = (k, v) :: rest
structure LeastRel (w : World) (x : Tr (List UInt8) (Option Addr)) (p : Value) : Prop where
  out : ∃ (l r : Tr (List UInt8) (Option Addr)) (k : (List UInt8)) (v : (Option Addr)) (tl : List ((List UInt8) × (Option Addr))), Nd w (.node l k v r) p ∧ x.flat = (Tr.node l k v r).flat ++ tl

set_option maxRecDepth 100000 in
set_option maxHeartbeats 1000000 in
theorem least_any {l r : Tr (List UInt8) (Option Addr)} {k : (List UInt8)} {v : (Option Addr)} {w : World} {p : Value} (h : Nd w (.node l k v r) p) :
    Calls Try.prog 69 #[p] w fun e w' => (∃ u, e = .returned u ∧ Least w (.node l k v r) u) ∧ w = w' := by
  have HR : Hid (LeastRel w (.node l k v r) p) := ⟨l, r, k, v, [], h, by rw [List.append_nil]⟩
  clear h
  generalize (Tr.node l k v r) = x at *
  go_enter Try.func69, Try.ntmps69
  go_wp2
  go_loop [0] (fun x0 => LeastRel w x x0) (fun x0 => szAt w x0)
  case atStart => exact HR.out
  case round =>
    obtain ⟨l, r, k, v, tl, hn, hf⟩ := hrel.out
    have HSZ := Lib.hid (sz_is hn)
    obtain ⟨g, pl, pr, rfl, hg, hl, hr⟩ := nd_node hn
    have hc2 := hg.cells.2.2.1
    have HG := Lib.hid hg; have HF := Lib.hid hf; clear hg hf hn hrel HR
    cases l with
    | nil =>
      obtain rfl : pl = .pointer none := hl
      clear hr
      go_wp2
      go_ret
      exact ⟨⟨_, rfl, g, k, v, _, _, _, _, rfl, HG.out, HF.out⟩, rfl⟩
    | node a k2 v2 b =>
      have HSL := Lib.hid (sz_is hl)
      have HL := Lib.hid hl
      obtain ⟨u, pa, pb, rfl, -, -, -⟩ := nd_node hl
      clear hl hr
      go_wp2
      go_round
      case rel => exact ⟨a, b, k2, v2, _, HL.out, by rw [HF.out, flat_node, List.append_assoc]⟩
      case measure => have h1 := HSZ.out; have h2 := HSL.out; rw [cnt_node] at h1; show szAt w _ < szAt w _; rw [h1, h2]; omega

set_option maxRecDepth 100000 in
set_option maxHeartbeats 4000000 in
theorem without_any (x : Tr (List UInt8) (Option Addr)) : ∀ (k : (List UInt8)) (w : World) (p : Value), Nd w x p → x.cnt ≤ 999999 → Up Op.bytesLess x.flat →
    Calls Try.prog 61 #[p, (.string ⟨k.toArray⟩)] w fun e w' => Has0 w w' e (dropK Op.bytesLess x.flat k) := by
  induction x with
  | nil =>
    intro k w p h _ _
    obtain rfl : p = .pointer none := h
    go_enter Try.func61, Try.ntmps61
    go_wp2
    go_ret
    exact ⟨.nil, none, rfl, rfl, rfl, Turn.refl _ w⟩
  | node l k0 v0 r ihl ihr =>
    intro k w p h hs hu
    obtain ⟨g, pl, pr, rfl, hg, hl, hr⟩ := nd_node h
    have HG := keep1 hg; have HL := keeps hl; have HR := keeps hr
    obtain ⟨pl, rfl⟩ := hl.shape
    obtain ⟨pr, rfl⟩ := hr.shape
    obtain ⟨c0, -, c2, c3, -⟩ := hg.cells
    obtain ⟨hu1, hu2, hu3⟩ := up_parts hu
    rw [cnt_node] at hs
    clear h hg hu
    have HK : Hid (∀ W, Turn (fun _ => False) w W → (W.cell? ⟨g, 2, none⟩ = some (.pointer pl) ∧ W.cell? ⟨g, 3, none⟩ = some (.pointer pr)) ∧ Turn (fun _ => False) w W) :=
      fun W ht => ⟨⟨(HG.out W ht).cells.2.2.1, (HG.out W ht).cells.2.2.2.1⟩, ht⟩
    by_cases h1 : Op.bytesLess k k0 = true
    · have hp : dropK Op.bytesLess (Tr.node l k0 v0 r).flat k = dropK Op.bytesLess l.flat k ++ (k0, v0) :: r.flat := drop_left rises_bytes (p := (k0, v0)) h1 r.flat l.flat
      rw [hp]
      have HC : Hid (∀ W, Calls Try.prog 66 #[(.string ⟨k.toArray⟩), (.string ⟨k0.toArray⟩)] W fun e w' => e = .returned (.int .i64 (-1)) ∧ W = w') := fun W => by have := compare_any k k0 W; rw [ord_lt h1] at this; exact this
      have HI : Hid (∀ W, Turn (fun _ => False) w W → Calls Try.prog 61 #[.pointer pl, (.string ⟨k.toArray⟩)] W fun e w' => Has0 W w' e (dropK Op.bytesLess l.flat k)) := fun W ht => ihl k W _ (HL.out W ht) (by omega) hu1
      clear ihl ihr hu1 hu2 hu3 hp h1 hl hr c2 c3
      go_enter Try.func61, Try.ntmps61
      go_wp2_with (go_at_call 66; refine (HC.out _).mono ?_; rintro e w' ⟨rfl, rfl⟩)
      go_region_held3 (fun W => (W.cell? ⟨g, 2, none⟩ = some (.pointer pl) ∧ W.cell? ⟨g, 3, none⟩ = some (.pointer pr)) ∧ Turn (fun _ => False) w W)
        ((refine HK.out _ ?_; repeat (first | with_reducible exact Turn.refl _ w | with_reducible exact HTC.out | with_reducible exact HTB.out | with_reducible exact HTA.out | with_reducible refine Turn.drew ?_ | with_reducible refine Turn.drewN ?_ _)))
        (first
          | (go_at_call 61; (with_reducible refine (HI.out _ ?_).mono ?_); exact (Turn.refl _ w).drew; rintro e w2 ⟨y, q, hy, rfl, hn, ht⟩; have HTA := Lib.hid ((Turn.refl _ w).drew.trans ht (fun _ _ f => f)); have HNA := Lib.hid hn; have HY := Lib.hid hy; clear hn ht hy)
          | (go_at_call 67; (with_reducible refine (over_any (g := g) (pr := .pointer pr) (HG.out _ ?_) HNA.out (HR.out _ ?_) ?_).mono ?_); exact HTA.out; exact HTA.out; (focus (have := cnt_drop HY.out; omega)); rintro e w3 ⟨q2, rfl, hn2, ht2⟩; have HTB := Lib.hid (HTA.out.trans ht2 (fun _ _ f => f)); have HNB := Lib.hid hn2; clear hn2 ht2)
          | (go_at_call 68; (with_reducible refine (even_any HNB.out ?_).mono ?_); (focus (have := cnt_drop HY.out; omega)); rintro e w4 ⟨z, hz, q3, rfl, hn3, ht3⟩; have HTC := Lib.hid (HTB.out.trans ht3 (fun _ _ f => f)); have HNC := Lib.hid hn3; have HZ := Lib.hid hz; clear hn3 ht3 hz) | fail)
      all_goals go_wp2
      all_goals go_ret
      all_goals exact ⟨z, _, by rw [HZ.out, flat_node, HY.out], rfl, HNC.out, HTC.out⟩
    · by_cases h2 : Op.bytesLess k0 k = true
      · have hp : dropK Op.bytesLess (Tr.node l k0 v0 r).flat k = l.flat ++ (k0, v0) :: dropK Op.bytesLess r.flat k := drop_right (p := (k0, v0)) h2 r.flat l.flat (hu3.tr rises_bytes h2)
        rw [hp]
        have HC : Hid (∀ W, Calls Try.prog 66 #[(.string ⟨k.toArray⟩), (.string ⟨k0.toArray⟩)] W fun e w' => e = .returned (.int .i64 1) ∧ W = w') := fun W => by have := compare_any k k0 W; rw [ord_gt h2] at this; exact this
        have HI : Hid (∀ W, Turn (fun _ => False) w W → Calls Try.prog 61 #[.pointer pr, (.string ⟨k.toArray⟩)] W fun e w' => Has0 W w' e (dropK Op.bytesLess r.flat k)) := fun W ht => ihr k W _ (HR.out W ht) (by omega) hu2
        clear ihl ihr hu1 hu2 hu3 hp h1 h2 hl hr c2 c3
        go_enter Try.func61, Try.ntmps61
        go_wp2_with (go_at_call 66; refine (HC.out _).mono ?_; rintro e w' ⟨rfl, rfl⟩)
        go_region_held3 (fun W => (W.cell? ⟨g, 2, none⟩ = some (.pointer pl) ∧ W.cell? ⟨g, 3, none⟩ = some (.pointer pr)) ∧ Turn (fun _ => False) w W)
          ((refine HK.out _ ?_; repeat (first | with_reducible exact Turn.refl _ w | with_reducible exact HTC.out | with_reducible exact HTB.out | with_reducible exact HTA.out | with_reducible refine Turn.drew ?_ | with_reducible refine Turn.drewN ?_ _)))
          (first
          | (go_at_call 61; (with_reducible refine (HI.out _ ?_).mono ?_); exact (Turn.refl _ w).drew; rintro e w2 ⟨y, q, hy, rfl, hn, ht⟩; have HTA := Lib.hid ((Turn.refl _ w).drew.trans ht (fun _ _ f => f)); have HNA := Lib.hid hn; have HY := Lib.hid hy; clear hn ht hy)
          | (go_at_call 67; (with_reducible refine (over_any (g := g) (pl := .pointer pl) (HG.out _ ?_) (HL.out _ ?_) HNA.out ?_).mono ?_); exact HTA.out; exact HTA.out; (focus (have := cnt_drop HY.out; omega)); rintro e w3 ⟨q2, rfl, hn2, ht2⟩; have HTB := Lib.hid (HTA.out.trans ht2 (fun _ _ f => f)); have HNB := Lib.hid hn2; clear hn2 ht2)
          | (go_at_call 68; (with_reducible refine (even_any HNB.out ?_).mono ?_); (focus (have := cnt_drop HY.out; omega)); rintro e w4 ⟨z, hz, q3, rfl, hn3, ht3⟩; have HTC := Lib.hid (HTB.out.trans ht3 (fun _ _ f => f)); have HNC := Lib.hid hn3; have HZ := Lib.hid hz; clear hn3 ht3 hz) | fail)
        all_goals go_wp2
        all_goals go_ret
        all_goals exact ⟨z, _, by rw [HZ.out, flat_node, HY.out], rfl, HNC.out, HTC.out⟩
      · have he : k0 = k := by
          by_cases e : k0 = k
          · exact e
          · exact absurd (rises_bytes.tot _ _ e (by simpa using h2)) h1
        subst he
        have hp : dropK Op.bytesLess (Tr.node l k0 v0 r).flat k0 = l.flat ++ r.flat := drop_same rises_bytes (p := (k0, v0)) r.flat l.flat hu3
        rw [hp]
        have HC : Hid (∀ W, Calls Try.prog 66 #[(.string ⟨k0.toArray⟩), (.string ⟨k0.toArray⟩)] W fun e w' => e = .returned (.int .i64 0) ∧ W = w') := fun W => by have := compare_any k0 k0 W; rw [ord_eq] at this; exact this
        clear hu1 hu3 hp h1 h2 ihl
        cases l with
        | nil =>
          have e : (Value.pointer pl) = .pointer none := hl
          cases e
          clear ihr hu2 hl hr
          go_enter Try.func61, Try.ntmps61
          go_wp2_with (go_at_call 66; refine (HC.out _).mono ?_; rintro e w' ⟨rfl, rfl⟩)
          go_ret
          exact ⟨r, pr, rfl, rfl, HR.out _ (Turn.refl _ w), Turn.refl _ w⟩
        | node a k2 v2 b =>
          cases r with
          | nil =>
            have e : (Value.pointer pr) = .pointer none := hr
            cases e
            obtain ⟨u, pa, pb, hpl, -, -, -⟩ := nd_node hl
            cases hpl
            clear ihr hu2 hl hr
            go_enter Try.func61, Try.ntmps61
            go_wp2_with (go_at_call 66; refine (HC.out _).mono ?_; rintro e w' ⟨rfl, rfl⟩)
            go_ret
            exact ⟨.node a k2 v2 b, _, by show _ = _ ++ []; rw [List.append_nil], rfl, HL.out _ (Turn.refl _ w), Turn.refl _ w⟩
          | node c k3 v3 d =>
            obtain ⟨u, pa, pb, hpl, -, -, -⟩ := nd_node hl
            cases hpl
            obtain ⟨t, pc, pd, hpr, -, -, -⟩ := nd_node hr
            cases hpr
            have HLS : Hid (Calls Try.prog 69 #[.pointer (some ⟨t, 0, none⟩)] w fun e w' => (∃ u, e = .returned u ∧ Least w (.node c k3 v3 d) u) ∧ w = w') := least_any hr
            have HI : Hid (∀ k W, Turn (fun _ => False) w W → Calls Try.prog 61 #[.pointer (some ⟨t, 0, none⟩), (.string ⟨k.toArray⟩)] W fun e w' => Has0 W w' e (dropK Op.bytesLess (Tr.node c k3 v3 d).flat k)) := fun k W ht => ihr k W _ (HR.out W ht) (by omega) hu2
            clear ihr hu2 hl hr
            obtain ⟨x1, hx1⟩ : ∃ x, x = Tr.node a k2 v2 b := ⟨_, rfl⟩
            obtain ⟨x2, hx2⟩ : ∃ x, x = Tr.node c k3 v3 d := ⟨_, rfl⟩
            rw [← hx1] at HL hs
            rw [← hx2] at HR HI HLS hs
            rw [← hx1, ← hx2]
            clear hx1 hx2 HG
            go_enter Try.func61, Try.ntmps61
            go_wp2_with (first
              | (go_at_call 66; refine (HC.out _).mono ?_; rintro e w' ⟨rfl, rfl⟩)
              | (go_at_call 69; refine HLS.out.mono ?_; rintro e w' ⟨⟨_, rfl, s, ks, vs, ps, pt, n, rest, rfl, hone, hflat⟩, rfl⟩; have HS := keep1 hone; have HF := Lib.hid hflat; clear hone hflat)
              | fail)
            have HK2 : Hid (∀ W, Turn (fun _ => False) w W → (W.cell? ⟨g, 2, none⟩ = some (.pointer (some ⟨u, 0, none⟩)) ∧ W.cell? ⟨g, 3, none⟩ = some (.pointer (some ⟨t, 0, none⟩)) ∧ W.cell? ⟨s, 0, none⟩ = some (.string ⟨ks.toArray⟩)) ∧ Turn (fun _ => False) w W) :=
              fun W ht => ⟨⟨(HK.out W ht).1.1, (HK.out W ht).1.2, (HS.out W ht).cells.1⟩, ht⟩
            go_region_held3 (fun W => (W.cell? ⟨g, 2, none⟩ = some (.pointer (some ⟨u, 0, none⟩)) ∧ W.cell? ⟨g, 3, none⟩ = some (.pointer (some ⟨t, 0, none⟩)) ∧ W.cell? ⟨s, 0, none⟩ = some (.string ⟨ks.toArray⟩)) ∧ Turn (fun _ => False) w W)
              ((refine HK2.out _ ?_; repeat (first | with_reducible exact Turn.refl _ w | with_reducible exact HTC.out | with_reducible exact HTB.out | with_reducible exact HTA.out | with_reducible refine Turn.drew ?_ | with_reducible refine Turn.drewN ?_ _)))
              (first
                | (go_at_call 61; (with_reducible refine (HI.out ks _ ?_).mono ?_); exact (Turn.refl _ w).drew; rintro e w2 ⟨y, q, hy, rfl, hn, ht⟩; have HTA := Lib.hid ((Turn.refl _ w).drew.trans ht (fun _ _ f => f)); have HNA := Lib.hid hn; have HY := Lib.hid hy; clear hn ht hy)
                | (go_at_call 67; (with_reducible refine (over_any (g := s) (pl := .pointer (some ⟨u, 0, none⟩)) (HS.out _ ?_) (HL.out _ ?_) HNA.out ?_).mono ?_); exact HTA.out; exact HTA.out; (focus (have := cnt_drop HY.out; omega)); rintro e w3 ⟨q2, rfl, hn2, ht2⟩; have HTB := Lib.hid (HTA.out.trans ht2 (fun _ _ f => f)); have HNB := Lib.hid hn2; clear hn2 ht2)
                | (go_at_call 68; (with_reducible refine (even_any HNB.out ?_).mono ?_); (focus (have := cnt_drop HY.out; omega)); rintro e w4 ⟨z, hz, q3, rfl, hn3, ht3⟩; have HTC := Lib.hid (HTB.out.trans ht3 (fun _ _ f => f)); have HNC := Lib.hid hn3; have HZ := Lib.hid hz; clear hn3 ht3 hz) | fail)
            all_goals go_wp2
            all_goals go_ret
            all_goals exact ⟨z, _, by rw [HZ.out, flat_node, HY.out, HF.out, drop_first rises_bytes (ks, vs)], rfl, HNC.out, HTC.out⟩

end Go.Proofs.Ytclljogbingjiaa.omp

/-
  The greatest key of a tree that is not above one; the map: New, Len, Put, Drop, Floor, Get, Copy (keys string, values *disk.file).
-/
namespace Go.Proofs.Ytclljogbingjiaa.omp
open Go.RowKit

/-- What a search has found. -/
def Fnd (w : World) (u : Value) : Option ((List UInt8) × (Option Addr)) → Prop
  | none => u = .pointer none
  | some p => ∃ g pl pr n, u = .pointer (some ⟨g, 0, none⟩) ∧ One w g p.1 p.2 pl pr n
theorem Fnd.later {w w' : World} {u : Value} {f : Option ((List UInt8) × (Option Addr))} (h : Fnd w u f) (ht : Turn (fun _ => False) w w') : Fnd w' u f := by
  cases f with
  | none => exact h
  | some p => obtain ⟨g, pl, pr, n, e, ho⟩ := h; exact ⟨g, pl, pr, n, e, ho.later ht⟩
theorem Fnd.shape {w : World} {u : Value} {f : Option ((List UInt8) × (Option Addr))} (h : Fnd w u f) : ∃ A, u = .pointer A := by
  cases f with
  | none => exact ⟨none, h⟩
  | some p => obtain ⟨g, pl, pr, n, e, ho⟩ := h; exact ⟨_, e⟩

set_option maxRecDepth 100000 in
theorem in_any (q : Nat) (k key : (List UInt8)) (w : World) (hq : w.cell? ⟨q, 0, none⟩ = some (.string ⟨k.toArray⟩)) :
    Calls Try.prog 71 #[(.string ⟨key.toArray⟩), .pointer (some ⟨q, 0, none⟩)] w fun e w' => e = .returned (.bool (!Op.bytesLess k key)) ∧ w = w' := by
  go_enter Try.func71, Try.ntmps71
  go_wp2_with (go_at_call 65; refine (less_any _ _ _).mono ?_; rintro e w' ⟨rfl, rfl⟩)
  go_ret
  exact ⟨rfl, rfl⟩

structure LastRel (w : World) (k : (List UInt8)) (ans : Option ((List UInt8) × (Option Addr))) (x0 x5 : Value) (y : Tr (List UInt8) (Option Addr)) (f : Option ((List UInt8) × (Option Addr))) : Prop where
  tr : Nd w y x0
  up : Up Op.bytesLess y.flat
  fd : Fnd w x5 f
  is : Fl Op.bytesLess y.flat k f = ans
theorem last_right {w : World} {k : (List UInt8)} {ans : Option ((List UInt8) × (Option Addr))} {x5 : Value} {l r : Tr (List UInt8) (Option Addr)} {k0 : (List UInt8)} {v0 : (Option Addr)} {f : Option ((List UInt8) × (Option Addr))} {g n : Nat} {pl pr : Value} (h : LastRel w k ans (.pointer (some ⟨g, 0, none⟩)) x5 (.node l k0 v0 r) f)
    (ho : One w g k0 v0 pl pr n) (hr : Nd w r pr) (hk : Op.bytesLess k k0 = false) : LastRel w k ans pr (.pointer (some ⟨g, 0, none⟩)) r (some (k0, v0)) := by
  obtain ⟨h1, h2, h3⟩ := up_parts h.up
  refine ⟨hr, h2, ⟨g, pl, pr, n, rfl, ho⟩, ?_⟩
  rw [← h.is]
  have h4 := (up_cons.1 (up_append.1 h.up).2.1).1
  unfold Fl
  rw [flat_node, fl_below rises_bytes (p := (k0, v0)) hk r.flat (fun q hq => ?_) l.flat h3]
  · cases floorK Op.bytesLess r.flat k <;> rfl
  · obtain ⟨i, hi, e⟩ := List.mem_iff_getElem.1 hq
    exact h4 i q (by rw [List.getElem?_eq_getElem hi, e])
theorem last_left {w : World} {k : (List UInt8)} {ans : Option ((List UInt8) × (Option Addr))} {x0 x5 pl : Value} {l r : Tr (List UInt8) (Option Addr)} {k0 : (List UInt8)} {v0 : (Option Addr)} {f : Option ((List UInt8) × (Option Addr))} (h : LastRel w k ans x0 x5 (.node l k0 v0 r) f) (hl : Nd w l pl) (hk : Op.bytesLess k k0 = true) : LastRel w k ans pl x5 l f := by
  obtain ⟨h1, h2, h3⟩ := up_parts h.up
  refine ⟨hl, h1, h.fd, ?_⟩
  rw [← h.is]
  unfold Fl
  rw [flat_node, fl_above rises_bytes (p := (k0, v0)) hk r.flat l.flat]
theorem last_end {w : World} {k : (List UInt8)} {ans : Option ((List UInt8) × (Option Addr))} {x0 x5 : Value} {f : Option ((List UInt8) × (Option Addr))} (h : LastRel w k ans x0 x5 .nil f) : Fnd w x5 ans := by rw [← h.is]; exact h.fd

set_option maxRecDepth 100000 in
set_option maxHeartbeats 2000000 in
theorem last_any (q : Nat) (k : (List UInt8)) {x : Tr (List UInt8) (Option Addr)} {w : World} {p : Value} (h : Nd w x p) (hu : Up Op.bytesLess x.flat) (hq : Box w q 9 #[(.string ⟨k.toArray⟩)]) :
    Calls Try.prog 70 #[p, .func (.func 71) #[] #[.pointer (some ⟨q, 0, none⟩)]] w fun e w' => (∃ u, e = .returned u ∧ Fnd w u (floorK Op.bytesLess x.flat k)) ∧ ∃ n, w' = w.drewN n := by
  have HQ := Lib.hid hq
  have HR : Hid (LastRel w k (floorK Op.bytesLess x.flat k) p (.pointer none) x none) := ⟨h, hu, rfl, by unfold Fl; cases floorK Op.bytesLess x.flat k <;> rfl⟩
  generalize floorK Op.bytesLess x.flat k = ans at *
  clear h hu hq
  go_enter Try.func70, Try.ntmps70
  go_wp2
  go_loopw [0, 5] (fun x0 x5 wr => (∃ y f, LastRel w k ans x0 x5 y f) ∧ ∃ n, wr = w.drewN n) (fun x0 _ _ => szAt w x0)
  case atStart => exact ⟨⟨x, none, HR.out⟩, 0, rfl⟩
  case round =>
    obtain ⟨⟨y, f, hrl⟩, n, rfl⟩ := hrel
    have HRL := Lib.hid hrl
    have HSZ := Lib.hid (sz_is hrl.tr)
    obtain ⟨A5, rfl⟩ := hrl.fd.shape
    cases y with
    | nil =>
      obtain rfl : _ = Value.pointer none := hrl.tr
      clear hrl
      go_wp2
      go_ret
      exact ⟨⟨_, rfl, last_end HRL.out⟩, n, rfl⟩
    | node l k0 v0 r =>
      obtain ⟨g, pl, pr, rfl, hg, hl, hr⟩ := nd_node hrl.tr
      obtain ⟨c0, -, c2, c3, -⟩ := hg.cells
      have HG := Lib.hid hg; have HL := Lib.hid hl; have HR2 := Lib.hid hr
      have HSL := Lib.hid (sz_is hl); have HSR := Lib.hid (sz_is hr)
      obtain ⟨pl, rfl⟩ := hl.shape
      obtain ⟨pr, rfl⟩ := hr.shape
      have HI := Lib.hid (in_any q k k0 (w.drewN n) ((HQ.out.turn ((Turn.refl (fun _ => False) w).drewN n) (fun f => f)).cell 0))
      clear hrl hg hl hr
      cases hk : Op.bytesLess k k0 with
      | false =>
        rw [hk] at HI
        have HX := Lib.hid (last_right HRL.out HG.out HR2.out hk)
        clear hk
        go_wp2_with (go_at_call 71; refine HI.out.mono ?_; rintro e w' ⟨rfl, rfl⟩)
        go_quiet (fail)
        go_wp2
        go_roundw
        case rel => exact ⟨⟨r, _, HX.out⟩, n + nq, by simp [World.drewN, Nat.add_assoc]⟩
        case measure => have h1 := HSZ.out; have h2 := HSR.out; rw [cnt_node] at h1; show szAt w _ < szAt w _; rw [h1, h2]; omega
      | true =>
        rw [hk] at HI
        have HX := Lib.hid (last_left HRL.out HL.out hk)
        clear hk
        go_wp2_with (go_at_call 71; refine HI.out.mono ?_; rintro e w' ⟨rfl, rfl⟩)
        go_roundw
        case rel => exact ⟨⟨l, _, HX.out⟩, _, rfl⟩
        case measure => have h1 := HSZ.out; have h2 := HSL.out; rw [cnt_node] at h1; show szAt w _ < szAt w _; rw [h1, h2]; omega

/-- The map at block g: its keys and values, in order. -/
structure MP (w : World) (g : Nat) (lf dn : Value) (L : List ((List UInt8) × (Option Addr))) : Prop where
  out : ∃ (x : Tr (List UInt8) (Option Addr)) (A : Option Addr), Box w g 59 #[.pointer A, lf, dn] ∧ Nd w x (.pointer A) ∧ x.flat = L
  up : Up Op.bytesLess L
theorem MP.turn {S : Nat → Prop} {w w' : World} {g : Nat} {lf dn : Value} {L : List ((List UInt8) × (Option Addr))} (h : MP w g lf dn L) (ht : Turn S w w') (h1 : ¬ S g) (h2 : ∀ i cs, Box w i 93 cs → ¬ S i) : MP w' g lf dn L := by
  obtain ⟨x, A, hb, hx, e⟩ := h.out
  exact ⟨⟨x, A, hb.turn ht h1, hx.turn ht h2, e⟩, h.up⟩
theorem MP.later {w w' : World} {g : Nat} {lf dn : Value} {L : List ((List UInt8) × (Option Addr))} (h : MP w g lf dn L) (ht : Turn (fun _ => False) w w') : MP w' g lf dn L := h.turn ht (fun f => f) (fun _ _ _ f => f)
/-- A map, and its block turned. -/
theorem MP.set {w w' : World} {g : Nat} {lf dn : Value} {L M : List ((List UInt8) × (Option Addr))} {y : Tr (List UInt8) (Option Addr)} {A : Option Addr} (h : MP w g lf dn L) (ht : Turn (fun _ => False) w w') (hn : Nd w' y (.pointer A)) (hf : y.flat = M) (hu : Up Op.bytesLess M) :
    MP (w'.setCell ⟨g, 0, none⟩ (.pointer A)) g lf dn M ∧ Turn (fun j => j = g) w (w'.setCell ⟨g, 0, none⟩ (.pointer A)) := by
  obtain ⟨x, A0, hb, hx, e⟩ := h.out
  have hb' := hb.turn ht (fun f => f)
  have htt : Turn (fun j => j = g) w' (w'.setCell ⟨g, 0, none⟩ (.pointer A)) := Turn.setCell (S := fun j => j = g) (p := ⟨g, 0, none⟩) (Turn.refl _ w') (fun _ => rfl) _
  refine ⟨⟨⟨y, A, hb'.set 0 _, hn.turn htt (fun i cs hi e => ?_), hf⟩, hu⟩, (ht.mono (fun _ _ f => f.elim)).trans htt (fun k hk e => e)⟩
  subst e
  have e2 := (show w'.heap[i]? = _ from hi).symm.trans hb'
  injection e2 with e2
  injection e2 with _ e3
  exact absurd e3 (by decide)

set_option maxRecDepth 100000 in
theorem len_any {w : World} {g : Nat} {lf dn : Value} {L : List ((List UInt8) × (Option Addr))} (h : MP w g lf dn L) : Calls Try.prog 39 #[.pointer (some ⟨g, 0, none⟩)] w fun e w' => e = .returned (.int .i64 (L.length : Int)) ∧ w = w' := by
  obtain ⟨x, A, hb, hx, rfl⟩ := h.out
  have hc := hb.cell 0
  rw [Tr.cnt_flat]
  have HX := Lib.hid hx
  clear h hb hx
  go_enter Try.func39, Try.ntmps39
  go_wp2_with (go_at_call 59; refine (count_any HX.out).mono ?_; rintro e w' ⟨rfl, rfl⟩)
  go_ret
  exact ⟨rfl, rfl⟩

set_option maxRecDepth 100000 in
set_option maxHeartbeats 1000000 in
theorem put_any (k : (List UInt8)) (v : (Option Addr)) {w : World} {g : Nat} {lf dn : Value} {L : List ((List UInt8) × (Option Addr))} (h : MP w g lf dn L) (hl : L.length ≤ 900000) :
    Calls Try.prog 42 #[.pointer (some ⟨g, 0, none⟩), (.string ⟨k.toArray⟩), (.pointer v)] w fun e w' => e = .returned (.bool (!hasK Op.bytesLess L k)) ∧ MP w' g lf dn (putK Op.bytesLess L k v) ∧ Turn (fun j => j = g) w w' := by
  have HM := Lib.hid h
  obtain ⟨x, A, hb, hx, hf⟩ := h.out
  have HL := Lib.hid (len_any h)
  have HU := Lib.hid (put_up rises_bytes h.up k v)
  have HW := Lib.hid (with_any k v x w _ hx (by rw [← Tr.cnt_flat, hf]; omega) (by rw [hf]; exact h.up))
  rw [hf] at HW
  have hc := hb.cell 0
  have hfree := hb.free 0
  have HB := Lib.hid hb
  have HN := Lib.hid (put_size (lt := Op.bytesLess) L k v)
  have hl2 : (putK Op.bytesLess L k v).length ≤ 900001 := by rw [HN.out]; split <;> omega
  obtain ⟨b, hbb⟩ : ∃ b, b = hasK Op.bytesLess L k := ⟨_, rfl⟩
  rw [← hbb] at HN ⊢
  have hgt : (L.length : Int) < ((putK Op.bytesLess L k v).length : Int) ↔ b = false := by rw [HN.out]; cases b <;> simp <;> omega
  generalize putK Op.bytesLess L k v = M at *
  clear h hb hx hf hbb
  go_enter Try.func42, Try.ntmps42
  go_wp2_with (go_at_call 39; refine (HL.out).mono ?_; rintro e w' ⟨rfl, rfl⟩)
  go_at_call 60
  with_reducible refine (HW.out).mono ?_
  rintro e w2 ⟨y, hy, q, rfl, hn, ht⟩
  have hc2 := (HB.out.turn ht (fun f => f)).cell 0
  have hfree2 := (HB.out.turn ht (fun f => f)).free 0
  have HS := Lib.hid (HM.out.set ht hn hy HU.out)
  have HL2 := Lib.hid (len_any HS.out.1)
  clear hn ht hy
  go_wp2_with ((go_at_call 39; with_reducible refine (HL2.out).mono ?_; rintro e w' ⟨rfl, rfl⟩))
  go_ret
  exact ⟨rfl, HS.out⟩

set_option maxRecDepth 100000 in
set_option maxHeartbeats 1000000 in
theorem drop_any (k : (List UInt8)) {w : World} {g : Nat} {lf dn : Value} {L : List ((List UInt8) × (Option Addr))} (h : MP w g lf dn L) (hl : L.length ≤ 900000) :
    Calls Try.prog 50 #[.pointer (some ⟨g, 0, none⟩), (.string ⟨k.toArray⟩)] w fun e w' => e = .returned (.bool (hasK Op.bytesLess L k)) ∧ MP w' g lf dn (dropK Op.bytesLess L k) ∧ Turn (fun j => j = g) w w' := by
  have HM := Lib.hid h
  obtain ⟨x, A, hb, hx, hf⟩ := h.out
  have HL := Lib.hid (len_any h)
  have HU := Lib.hid (drop_up rises_bytes h.up k)
  have HW := Lib.hid (without_any x k w _ hx (by rw [← Tr.cnt_flat, hf]; omega) (by rw [hf]; exact h.up))
  rw [hf] at HW
  have hc := hb.cell 0
  have hfree := hb.free 0
  have HB := Lib.hid hb
  have HN := Lib.hid (drop_size (lt := Op.bytesLess) L k)
  have hl2 : (dropK Op.bytesLess L k).length ≤ 900000 := by have := HN.out; omega
  obtain ⟨b, hbb⟩ : ∃ b, b = hasK Op.bytesLess L k := ⟨_, rfl⟩
  rw [← hbb] at HN ⊢
  have hgt : ((dropK Op.bytesLess L k).length : Int) < (L.length : Int) ↔ b = true := by have := HN.out; cases b <;> simp at this ⊢ <;> omega
  generalize dropK Op.bytesLess L k = M at *
  clear h hb hx hf hbb
  go_enter Try.func50, Try.ntmps50
  go_wp2_with (go_at_call 39; refine (HL.out).mono ?_; rintro e w' ⟨rfl, rfl⟩)
  go_at_call 61
  with_reducible refine (HW.out).mono ?_
  rintro e w2 ⟨y, q, hy, rfl, hn, ht⟩
  have hc2 := (HB.out.turn ht (fun f => f)).cell 0
  have hfree2 := (HB.out.turn ht (fun f => f)).free 0
  have HS := Lib.hid (HM.out.set ht hn hy HU.out)
  have HL2 := Lib.hid (len_any HS.out.1)
  clear hn ht hy
  go_wp2_with ((go_at_call 39; with_reducible refine (HL2.out).mono ?_; rintro e w' ⟨rfl, rfl⟩))
  go_ret
  exact ⟨rfl, HS.out⟩

/-- What Floor answers. -/
def floorA : Option ((List UInt8) × (Option Addr)) → Value
  | some p => .tuple #[(.string ⟨p.1.toArray⟩), (.pointer p.2), .bool true]
  | none => .tuple #[(.string ⟨#[]⟩), (.pointer none), .bool false]

set_option maxRecDepth 100000 in
set_option maxHeartbeats 1000000 in
theorem floor_any (k : (List UInt8)) {w : World} {g : Nat} {lf dn : Value} {L : List ((List UInt8) × (Option Addr))} (h : MP w g lf dn L) :
    Calls Try.prog 64 #[.pointer (some ⟨g, 0, none⟩), (.string ⟨k.toArray⟩)] w fun e w' => e = .returned (floorA (floorK Op.bytesLess L k)) ∧ Turn (fun _ => False) w w' := by
  obtain ⟨x, A, hb, hx, rfl⟩ := h.out
  have HW := Lib.hid (last_any w.heap.size k (w := w.alloc (.cells #[(.string ⟨k.toArray⟩)] 9)) (hx.later ((Turn.refl _ w).alloc _)) h.up (Box.new w _ _))
  have hc := (hb.alloc (.cells #[(.string ⟨k.toArray⟩)] 9)).cell 0
  clear h hb hx
  generalize floorK Op.bytesLess x.flat k = ans at *
  cases ans with
  | none =>
    go_enter Try.func64, Try.ntmps64
    go_wp2_with (go_at_call 70; refine (HW.out).mono ?_; rintro e w' ⟨⟨_, rfl, rfl⟩, n, rfl⟩)
    go_ret3
    exact ⟨rfl, ((Turn.refl _ w).alloc _).drewN n⟩
  | some p =>
    go_enter Try.func64, Try.ntmps64
    go_wp2_with (go_at_call 70; refine (HW.out).mono ?_; rintro e w' ⟨⟨_, rfl, u, pl, pr, m, rfl, ho⟩, n, rfl⟩; obtain ⟨c0, c1, -, -, -⟩ := ho.cells; clear ho)
    go_quiet (fail)
    go_wp2
    go_ret3
    exact ⟨rfl, (((Turn.refl _ w).alloc _).drewN n).drewN _⟩


/-- What Get answers. -/
def getA : Option (Option Addr) → Value
  | some v => .tuple #[(.pointer v), .bool true]
  | none => .tuple #[(.pointer none), .bool false]

set_option maxRecDepth 100000 in
set_option maxHeartbeats 1000000 in
theorem get_any (k : (List UInt8)) {w : World} {g : Nat} {lf dn : Value} {L : List ((List UInt8) × (Option Addr))} (h : MP w g lf dn L) :
    Calls Try.prog 58 #[.pointer (some ⟨g, 0, none⟩), (.string ⟨k.toArray⟩)] w fun e w' => e = .returned (getA (getK Op.bytesLess L k)) ∧ Turn (fun _ => False) w w' := by
  have HW := Lib.hid (floor_any k h)
  have HG := Lib.hid (get_floor rises_bytes h.up k)
  clear h
  cases hf : floorK Op.bytesLess L k with
  | none =>
    rw [hf] at HW HG
    clear hf
    go_enter Try.func58, Try.ntmps58
    go_wp2_with (go_at_call 64; refine (HW.out).mono ?_; rintro e w' ⟨rfl, ht⟩; have HT := Lib.hid ht; clear ht; unfold floorA)
    go_ret2
    exact ⟨by rw [HG.out]; rfl, HT.out⟩
  | some p =>
    rw [hf] at HW HG
    clear hf
    cases hl : Op.bytesLess p.1 k with
    | true =>
      have HL : Hid (∀ W, Calls Try.prog 65 #[(.string ⟨p.1.toArray⟩), (.string ⟨k.toArray⟩)] W fun e w' => e = .returned (.bool true) ∧ W = w') := fun W => by have := less_any p.1 k W; rw [hl] at this; exact this
      have HG2 : Hid (getK Op.bytesLess L k = none) := by show _ = _; rw [HG.out]; simp [hl]
      clear hl HG
      go_enter Try.func58, Try.ntmps58
      go_wp2_with (first
        | (go_at_call 64; refine (HW.out).mono ?_; rintro e w' ⟨rfl, ht⟩; have HT := Lib.hid ht; clear ht; unfold floorA)
        | (go_at_call 65; refine (HL.out _).mono ?_; rintro e w' ⟨rfl, rfl⟩)
        | fail)
      go_ret2
      exact ⟨by rw [HG2.out]; rfl, HT.out⟩
    | false =>
      have HL : Hid (∀ W, Calls Try.prog 65 #[(.string ⟨p.1.toArray⟩), (.string ⟨k.toArray⟩)] W fun e w' => e = .returned (.bool false) ∧ W = w') := fun W => by have := less_any p.1 k W; rw [hl] at this; exact this
      have HG2 : Hid (getK Op.bytesLess L k = some p.2) := by show _ = _; rw [HG.out]; simp [hl]
      clear hl HG
      go_enter Try.func58, Try.ntmps58
      go_wp2_with (first
        | (go_at_call 64; refine (HW.out).mono ?_; rintro e w' ⟨rfl, ht⟩; have HT := Lib.hid ht; clear ht; unfold floorA)
        | (go_at_call 65; refine (HL.out _).mono ?_; rintro e w' ⟨rfl, rfl⟩)
        | fail)
      go_ret2
      exact ⟨by rw [HG2.out]; rfl, HT.out⟩

end Go.Proofs.Ytclljogbingjiaa.omp
