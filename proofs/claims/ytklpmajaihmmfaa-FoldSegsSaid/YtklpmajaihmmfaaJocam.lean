/-
  Texts laid one behind the other: Zrf Ew Q1i Zo Q1o Tc Id Dpr.
-/
import Derived.Test.YtklpmajaihmmfaaJocae
import Derived.Test.YtklpmajaihmmfaaJocaf
import Derived.Test.YtklpmajaihmmfaaJocal
import Derived.Laws.ResultCell
import Derived.Test.YtklpmajaihmmfaaJocac
import Derived.Test.YtklpmajaihmmfaaJocab
import Derived.Laws.IdiomArrays
import Derived.Deep.Strs
import Derived.Test.YtklpmajaihmmfaaJocai
import Derived.Test.YtklpmajaihmmfaaJocah
import Derived.Stop.RegionWithIn
import Derived.OwnWalkIn

/-
  Stage 9: the program's readFact.
-/
namespace Go.Proofs.Ytklpmajaihmmfaa
open Go.RowKit Go.ChangeShapes Go.WideShapes Go.Deep

set_option maxRecDepth 100000

section
variable {w wr : World} {p : Nat} {s : RS9}
end

/-- A fact as the program reads it, what is wrong, and the state behind it. -/
def zeroK : K9 := ⟨0, [], [], [], []⟩
def zeroF : F9 := ⟨zeroK, 0⟩
def factR (N : Nat) (s : RS9) : F9 × Nat × RS9 := if 16777216 < sNum s then (zeroF, 2, sNum' s) else ((oneF N (sNum s) (sNum' s)).1, (oneF N (sNum s) (sNum' s)).2.2, (oneF N (sNum s) (sNum' s)).2)

section
variable {w wr W W2 : World} {p b r : Nat} {x8 : Value} {out : List F9} {k : K9} {v : Int} {s s2 : RS9}
end
section
variable {w wr W W2 : World} {p b r : Nat} {k : K9} {v : Int} {s s2 : RS9}
end

end Go.Proofs.Ytklpmajaihmmfaa

/-
  A writer of pack (the program's) that is new since a world: one contract a call. For every stage whose code puts bytes so.
-/
namespace Go.Proofs.Ytklpmajaihmmfaa
open Go.RowKit

section
variable {w wr w' : World} {p : Nat} {l l' : List UInt8}
end

end Go.Proofs.Ytklpmajaihmmfaa

/-
  Stage 13: flags put and read; the program's Encode.
-/
namespace Go.Proofs.Ytklpmajaihmmfaa
open Go.RowKit

set_option maxRecDepth 100000

section
variable {w wr : World} {p : Nat} {l : List UInt8}
end
section
variable {w wr : World} {p : Nat} {s : RS9}
end
section
variable {q B : Nat} {s : RS9} {w : World}
end

/-- Behind Encode: the bytes, or none. -/
def Encd13 (w : World) (q : Q13) (n : Int) (e : Ending) (w' : World) : Prop :=
  ∃ v, e = .returned (.tuple #[v, .int .i64 (chkQ q n)]) ∧ Made w w' v (if chkQ q n = 0 then encQ q n.toNat else [])
end Go.Proofs.Ytklpmajaihmmfaa

/-
  Stage 9: keys and facts that came in.
-/
namespace Go.Proofs.Ytklpmajaihmmfaa
open Go.RowKit Go.ChangeShapes Go.WideShapes Go.Deep

set_option maxRecDepth 100000

theorem open_text9 {H : Type} {enc : TypeId × Value → H} {W : World} {n : Nat} {c0 : Value} {y : DataW H × List MemPlace} (h : DataW.trod enc Try.prog W 0 (fun _ => true) true n 9 [c0] = some y) : ∃ a : List UInt8, c0 = sv9 a := by
  obtain ⟨S, k2, _, sw⟩ := DataW.trod_string Try.underlying9 h
  simp only [List.cons.injEq, and_true] at k2
  exact ⟨S.data.toList, k2⟩
theorem open_texts9 {H : Type} {enc : TypeId × Value → H} {W : World} {n : Nat} {c0 c1 c2 c3 : Value} {y : DataW H × List MemPlace} (h : DataW.trod enc Try.prog W 0 (fun _ => true) true n 23 [c0, c1, c2, c3] = some y) :
    ∃ a b c d : List UInt8, c0 = sv9 a ∧ c1 = sv9 b ∧ c2 = sv9 c ∧ c3 = sv9 d := by
  obtain ⟨y0, y1, y2, y3, n', _, h0, h1, h2, h3⟩ := trod_array4 Try.underlying23 (by kernel_rfl) h
  obtain ⟨a, ha⟩ := open_text9 h0
  obtain ⟨b, hb⟩ := open_text9 h1
  obtain ⟨c, hc⟩ := open_text9 h2
  obtain ⟨d, hd⟩ := open_text9 h3
  exact ⟨a, b, c, d, ha, hb, hc, hd⟩
theorem open_keyc {H : Type} {enc : TypeId × Value → H} {W : World} {n : Nat} {cs : List Value} {y : DataW H × List MemPlace} (hl : cs.length = 5) (h : DataW.trod enc Try.prog W 0 (fun _ => true) true n 44 cs = some y) :
    ∃ k : K9, cs = [.int .i64 k.h, sv9 k.a, sv9 k.b, sv9 k.c, sv9 k.d] := by
  obtain ⟨y0, y1, n', _, _, g0, g1⟩ := trod_struct2 Try.underlying44 h
  have e1 : Try.prog.cellsOf 2 = 1 := by kernel_rfl
  have e4 : Try.prog.cellsOf 23 = 4 := by kernel_rfl
  match cs, hl with
  | [c0, c1, c2, c3, c4], _ =>
    simp [e1, e4] at g0 g1
    obtain ⟨K, k0, _, kw⟩ := DataW.trod_int Try.underlying2 g0
    simp only [List.cons.injEq, and_true] at k0
    subst k0
    obtain ⟨a, b, c, d, rfl, rfl, rfl, rfl⟩ := open_texts9 g1
    exact ⟨⟨K, a, b, c, d⟩, rfl⟩
theorem open_key9 {H : Type} {enc : TypeId × Value → H} {W : World} {b0 : Nat} {v : Value} {d : DataW H} {p : List MemPlace} (hv : Value.okWide Try.prog W .any b0 44 v) (h : DataW.Trod enc Try.prog W 0 (fun _ => true) true 44 v d p) : ∃ k : K9, v = kv9 k := by
  simp only [Value.okWide, Try.underlying44] at hv
  obtain ⟨cs, rfl, hsz, _⟩ := hv
  obtain ⟨fuel, hf⟩ := h
  have e5 : Try.prog.cellsOf 44 = 5 := by kernel_rfl
  obtain ⟨k, hk⟩ := open_keyc (by show (Value.cells (.agg cs)).toList.length = 5; simp [Value.cells]; omega) hf
  refine ⟨k, ?_⟩
  have hk2 : cs.toList = [.int .i64 k.h, sv9 k.a, sv9 k.b, sv9 k.c, sv9 k.d] := hk
  have hk3 : cs = #[.int .i64 k.h, sv9 k.a, sv9 k.b, sv9 k.c, sv9 k.d] := by rw [← Array.toList_inj]; exact hk2
  rw [hk3]
theorem open_factc {H : Type} {enc : TypeId × Value → H} {W : World} (n : Nat) (cs : List Value) (y : DataW H × List MemPlace) (hl : cs.length = EF.sz) (h : DataW.trod enc Try.prog W 0 (fun _ => true) true n 46 cs = some y) :
    ∃ f : F9, cs = EF.enc f ∧ (Lit.int .i64 f.v).wf = true := by
  obtain ⟨y0, y1, n', _, _, g0, g1⟩ := trod_struct2 Try.underlying46 h
  have e1 : Try.prog.cellsOf 2 = 1 := by kernel_rfl
  have e5 : Try.prog.cellsOf 44 = 5 := by kernel_rfl
  match cs, hl with
  | [c0, c1, c2, c3, c4, c5], _ =>
    simp [e1, e5] at g0 g1
    obtain ⟨K, k0, _, kw⟩ := DataW.trod_int Try.underlying2 g1
    simp only [List.cons.injEq, and_true] at k0
    subst k0
    obtain ⟨k, hk⟩ := open_keyc rfl g0
    simp only [List.cons.injEq, and_true] at hk
    obtain ⟨rfl, rfl, rfl, rfl, rfl⟩ := hk
    exact ⟨⟨k, K⟩, rfl, kw⟩
theorem open_facts9 {H : Type} {enc : TypeId × Value → H} {W : World} {v : Value} {d : DataW H} {p : List MemPlace} {a : Option Addr} {len cap : Nat} (hv : v = .slice a len cap)
    (h : DataW.Trod enc Try.prog W 0 (fun _ => true) true 39 v d p) : ∃ l : List F9, RdE EF W v l ∧ l.length ≤ maxLen ∧ ∀ f ∈ l, (Lit.int .i64 f.v).wf = true :=
  open_elems EF _ Try.underlying39 (by kernel_rfl) hv h open_factc

end Go.Proofs.Ytklpmajaihmmfaa

/-
  Stage 13: queries that came in; the chapter's example.
-/
namespace Go.Proofs.Ytklpmajaihmmfaa
open Go.RowKit Go.ChangeShapes Go.WideShapes Go.Deep

set_option maxRecDepth 100000

theorem trod_struct5_13 {P : Program} {H : Type} {enc : TypeId × Value → H} {w : World} {base : Nat} {spare : Nat → Bool} {held : Bool} {t : TypeId} {f0 f1 f2 f3 f4 : Field} {fuel : Nat} {cs : List Value} {x : DataW H × List MemPlace} (ht : P.underlying t = some (.struct #[f0, f1, f2, f3, f4])) (h : DataW.trod enc P w base spare held fuel t cs = some x) :
    ∃ y0 y1 y2 y3 y4 n, DataW.trod enc P w base spare held n f0.type ((cs.drop f0.offset).take (P.cellsOf f0.type)) = some y0 ∧
      DataW.trod enc P w base spare held n f1.type ((cs.drop f1.offset).take (P.cellsOf f1.type)) = some y1 ∧ DataW.trod enc P w base spare held n f2.type ((cs.drop f2.offset).take (P.cellsOf f2.type)) = some y2 ∧
      DataW.trod enc P w base spare held n f3.type ((cs.drop f3.offset).take (P.cellsOf f3.type)) = some y3 ∧ DataW.trod enc P w base spare held n f4.type ((cs.drop f4.offset).take (P.cellsOf f4.type)) = some y4 := by
  obtain ⟨xs, n, _, rfl, hl, hlen, hf⟩ := DataW.trod_struct ht h
  match xs, hlen with
  | [y0, y1, y2, y3, y4], _ => exact ⟨y0, y1, y2, y3, y4, n, by simpa using hf 0 f0 rfl, by simpa using hf 1 f1 rfl, by simpa using hf 2 f2 rfl, by simpa using hf 3 f3 rfl, by simpa using hf 4 f4 rfl⟩
theorem open_flag13 {H : Type} {enc : TypeId × Value → H} {W : World} {n : Nat} {c0 : Value} {y : DataW H × List MemPlace} (h : DataW.trod enc Try.prog W 0 (fun _ => true) true n 4 [c0] = some y) : ∃ a : Bool, c0 = .bool a := by
  obtain ⟨S, k2, _⟩ := DataW.trod_bool Try.underlying4 h
  simp only [List.cons.injEq, and_true] at k2
  exact ⟨S, k2⟩
theorem open_flags13 {H : Type} {enc : TypeId × Value → H} {W : World} {n : Nat} {c0 c1 c2 c3 : Value} {y : DataW H × List MemPlace} (h : DataW.trod enc Try.prog W 0 (fun _ => true) true n 22 [c0, c1, c2, c3] = some y) :
    ∃ v : V4 Bool, c0 = .bool v.a ∧ c1 = .bool v.b ∧ c2 = .bool v.c ∧ c3 = .bool v.d := by
  obtain ⟨y0, y1, y2, y3, n', _, h0, h1, h2, h3⟩ := trod_array4 Try.underlying22 (by kernel_rfl) h
  obtain ⟨a, ha⟩ := open_flag13 h0
  obtain ⟨b, hb⟩ := open_flag13 h1
  obtain ⟨c, hc⟩ := open_flag13 h2
  obtain ⟨d, hd⟩ := open_flag13 h3
  exact ⟨⟨a, b, c, d⟩, ha, hb, hc, hd⟩
theorem open_queryc13 {H : Type} {enc : TypeId × Value → H} {W : World} {n : Nat} {cs : List Value} {y : DataW H × List MemPlace} (hl : cs.length = 14) (h : DataW.trod enc Try.prog W 0 (fun _ => true) true n 25 cs = some y) :
    ∃ q : Q13, cs = (cells13 q).toList := by
  obtain ⟨y0, y1, y2, y3, y4, n', g0, g1, g2, g3, g4⟩ := trod_struct5_13 Try.underlying25 h
  have e1 : Try.prog.cellsOf 2 = 1 := by kernel_rfl
  have e4 : Try.prog.cellsOf 23 = 4 := by kernel_rfl
  have e5 : Try.prog.cellsOf 22 = 4 := by kernel_rfl
  match cs, hl with
  | [c0, c1, c2, c3, c4, c5, c6, c7, c8, c9, c10, c11, c12, c13], _ =>
    simp [e1, e4, e5] at g0 g1 g2 g3 g4
    obtain ⟨K, k0, _, kw⟩ := DataW.trod_int Try.underlying2 g0
    simp only [List.cons.injEq, and_true] at k0
    subst k0
    obtain ⟨L, l0, _, lw⟩ := DataW.trod_int Try.underlying2 g1
    simp only [List.cons.injEq, and_true] at l0
    subst l0
    obtain ⟨g, rfl, rfl, rfl, rfl⟩ := open_flags13 g2
    obtain ⟨h', rfl, rfl, rfl, rfl⟩ := open_flags13 g3
    obtain ⟨a, b, c, d, rfl, rfl, rfl, rfl⟩ := open_texts9 g4
    exact ⟨⟨K, L, g, h', ⟨a, b, c, d⟩⟩, rfl⟩
theorem open_query13 {H : Type} {enc : TypeId × Value → H} {W : World} {b0 : Nat} {v : Value} {d : DataW H} {p : List MemPlace} (hv : Value.okWide Try.prog W .any b0 25 v) (h : DataW.Trod enc Try.prog W 0 (fun _ => true) true 25 v d p) : ∃ q : Q13, v = qv13 q := by
  simp only [Value.okWide, Try.underlying25] at hv
  obtain ⟨cs, rfl, hsz, _⟩ := hv
  obtain ⟨fuel, hf⟩ := h
  have e5 : Try.prog.cellsOf 25 = 14 := by kernel_rfl
  obtain ⟨q, hq⟩ := open_queryc13 (by show (Value.cells (.agg cs)).toList.length = 14; simp [Value.cells]; omega) hf
  refine ⟨q, ?_⟩
  have hq2 : cs.toList = (cells13 q).toList := hq
  have hq3 : cs = cells13 q := by rw [← Array.toList_inj]; exact hq2
  rw [hq3]

theorem Encd13.rd {w w' : World} {q : Q13} {n : Int} {e : Ending} (h : Encd13 w q n e w') : ∃ v, e = .returned (.tuple #[v, .int .i64 (chkQ q n)]) ∧ Rd w' v (if chkQ q n = 0 then encQ q n.toNat else []) ∧ Turn (fun _ => False) w w' ∧ ∀ g, v.ownBlock = some g → g < w'.heap.size := by
  obtain ⟨v, h1, h2⟩ := h
  exact ⟨v, h1, h2.rd, h2.2.1, fun g hg => h2.1.lt hg⟩

def q130 : Q13 := ⟨3, 5, ⟨true, false, false, false⟩, V4.fill false, V4.fill []⟩
end Go.Proofs.Ytklpmajaihmmfaa

/-
  Stage 11: the library's binary search of rows by the program's closure; Find.
-/
namespace Go.Proofs.Ytklpmajaihmmfaa
open Go.RowKit

set_option maxRecDepth 100000

/-- Behind a search of a key. -/
def Bin11 (w : World) (L : List R11) (k : K9) (e : Ending) (w' : World) : Prop := ∃ i : Nat, e = .returned (.tuple #[.int .i64 (i : Int), .bool (findR k L).isSome]) ∧ (∀ c, findR k L = some c → L[i]? = some ⟨k, c⟩) ∧ Turn (fun _ => False) w w'

end Go.Proofs.Ytklpmajaihmmfaa

/-
  A region that draws its order, walked by hand: an operation is taken first, the activation written out.
-/
namespace Go.Proofs.Ytklpmajaihmmfaa
open Go.RowKit

theorem take_at {F : Fence} {n : Nat} {P : Program} {ops : Array Oper} {Q : Exit → Act → World → Prop} {md : Region.Mode} (i d : Nat) {oi : Oper} (v : Value) {fuel : Nat} {listed : Array Bool} {ts : Array Value} {ds : List Deferred} {w : World}
    (hro : F.round = none) (hi : ops[i]? = some oi) (hd : oi.dst = some d)
    (hs : Region.noSelect ops = true) (hf : Region.free md ops listed i = true) (hr : (Region.ready md ops listed).contains i = true)
    (hQ : ∀ c (a : Act) w, Q (.panic c) (a.put oi.dst v) w → Q (.panic c) a w) (hy : YieldsFenced P ops oi v { tmps := ts, defers := ds })
    (h : wpAnyIn F n P md ops Q fuel (listed.setIfInBounds i true) { tmps := ts.setIfInBounds d v, defers := ds } w) : wpAnyIn F n P md ops Q (fuel + 1) listed { tmps := ts, defers := ds } w := by
  refine wpAnyIn_take hro hi hs hf hr hQ hy ?_
  rw [hd]
  exact h

end Go.Proofs.Ytklpmajaihmmfaa

/-
  append onto a row of one's own that has room: the row stays where it is. No type is named here.
-/
namespace Go.Proofs.Ytklpmajaihmmfaa
open Go.RowKit

theorem run_app_room {P : Program} (w : World) (t tx ty e : TypeId) (i : TypeInfo) (ht : P.underlying t = some (.slice e)) (hi : P.info? e = some i)
    (g n cap : Nat) (xs : List Value) (hown : w.ownsRow 0 e i.size (.slice (some ⟨g, 0, none⟩) n cap) n xs) (x : Value) (m : Nat) (news : List Value) (hs : Src P i.size tx x m news w) (hroom : n + m ≤ cap) :
    ∃ w', (Builtin.append_ #[t, tx] ty #[.slice (some ⟨g, 0, none⟩) n cap, x]).run P w = .ok (.slice (some ⟨g, 0, none⟩) (n + m) cap) w' ∧ w'.ownsRow 0 e i.size (.slice (some ⟨g, 0, none⟩) (n + m) cap) (n + m) (xs ++ news) ∧ w.grownBy w' (some g) := by
  have hlen : (xs ++ news).length = (n + m) * i.size := by rw [List.length_append, hown.1, hs.newsLen, Nat.add_mul]
  rcases hown.2 with ⟨e1, _⟩ | ⟨g', cap', cur, e1, hb0, hg, hnc, hcm, hcs, htake⟩
  · cases e1
  · cases e1
    have hfit : n * i.size + news.length ≤ cur.size := by rw [hs.newsLen, hcs, ← Nat.add_mul]; exact Nat.mul_le_mul_right _ hroom
    have hst := run_storeCells_at P g (n * i.size) e news 0 cur w hg (by simpa using hfit) hs.one
    simp only [Nat.add_zero] at hst
    have hr : (Builtin.append_ #[t, tx] ty #[.slice (some ⟨g, 0, none⟩) n cap, x]).run P w =
        .ok (.slice (some ⟨g, 0, none⟩) (n + m) cap) (w.setRow g (cur.toList.take (n * i.size) ++ news ++ cur.toList.drop (n * i.size + news.length)).toArray) := by
      rcases hs.kind with ⟨e', hk⟩ | hk <;> simp [Builtin.append_, run_underlying ht, run_underlying hk, sizeOf, typeInfo, hi, hs.len, hs.cells, hroom, Addr.add_lit, hst]
    refine ⟨_, hr, ⟨hlen, .inr ⟨g, cap, _, rfl, hb0, setRow_heap w g cur _ e _ hg, hroom, hcm, ?_, ?_⟩⟩, ⟨rfl, rfl, rfl, by simp, fun k _ hk => setRow_other w g k _ (fun e => hk (by simp [e]))⟩⟩
    · simp only [List.size_toArray, List.length_append, List.length_take, List.length_drop, Array.length_toList]
      omega
    · rw [htake, ← hlen]
      exact List.take_left
theorem app_room {P : Program} {T : Type} {E : El T} {tS e : TypeId} {z : Value} {by' : Nat} (ht : P.underlying tS = some (.slice e)) (hi0 : (P.info? e).map (fun i => (i.zero, i.size, i.bytes)) = some (some z, E.sz, by'))
    (w : World) (tx ty : TypeId) (g n c : Nat) (l : List T) (hown : OwE E e w (.slice (some ⟨g, 0, none⟩) n c) l) (y : Value) (m : List T) (hy : Src P E.sz tx y m.length (E.flat m) w) (hroom : l.length + m.length ≤ c) :
    ∃ w', (Builtin.append_ #[tS, tx] ty #[.slice (some ⟨g, 0, none⟩) n c, y]).run P w = .ok (.slice (some ⟨g, 0, none⟩) (l.length + m.length) c) w' ∧ OwE E e w' (.slice (some ⟨g, 0, none⟩) (l.length + m.length) c) (l ++ m) ∧ Turn (fun k => k = g) w w' := by
  obtain ⟨i, hi, hz0, h1, h2⟩ := info_parts hi0
  obtain ⟨_, _, hsh⟩ := hown.shape
  obtain rfl : n = l.length := by injection hsh
  unfold OwE at hown
  rw [← h1] at hown hy
  obtain ⟨w', hr, g1, g2⟩ := run_app_room (P := P) w tS tx ty e i ht hi g _ c _ hown y m.length _ hy hroom
  refine ⟨w', hr, ?_, (Turn.refl _ w).grown g2 (fun k _ e => by cases e; rfl)⟩
  unfold OwE
  rw [List.length_append, E.flat_append, ← h1]
  exact g1

/-- append where there is room, in a round of a range over a function. -/
theorem wpListIn_room {F : Fence} {k : Nat} {P : Program} {T : Type} {E : El T} {tS e : TypeId} {z : Value} {by' : Nat} (ht : P.underlying tS = some (.slice e)) (hi0 : (P.info? e).map (fun i => (i.zero, i.size, i.bytes)) = some (some z, E.sz, by'))
    (w : World) {ops : Array Oper} {rest : List Oper} {o : Oper} {a : Act} {Q : Exit → Act → World → Prop} (hgd : o.guard = none) (s x : Operand)
    (ho : o.op = .call { callee := .builtin .append, args := #[s, x], argTypes := #[tS, tS] }) (g n c : Nat) (l : List T) (hs : a.eval s = .slice (some ⟨g, 0, none⟩) n c) (hown : OwE E e w (.slice (some ⟨g, 0, none⟩) n c) l)
    (y : Value) (hx : a.eval x = y) (m : List T) (hy : Src P E.sz tS y m.length (E.flat m) w) (hroom : l.length + m.length ≤ c)
    (h : ∀ w', OwE E e w' (.slice (some ⟨g, 0, none⟩) (l.length + m.length) c) (l ++ m) → Turn (fun k => k = g) w w' → wpListIn F k P ops Q rest (a.put o.dst (.slice (some ⟨g, 0, none⟩) (l.length + m.length) c)) w') :
    wpListIn F k P ops Q (o :: rest) a w := by
  refine wpListIn_plain hgd fun K hK' => ?_
  obtain ⟨w', hrun, r1, r2⟩ := app_room (P := P) ht hi0 w tS o.type g n c l hown y m hy hroom
  unfold Oper.wpIn
  refine ⟨?_, ?_⟩
  · simp [Oper.about, ho, resolve, Target.leads, Sem.run_pure]
  · rw [Oper.semAt_plain F _ _ (by rw [ho]; intro c hc'; cases hc')]
    simp [execOp, ho, resolve, invoke, builtin, hs, hx, hrun, Result.andThen]
    exact hK' _ _ (h w' r1 r2)
/-- A row of one's own holds cells: no record of a loop is in it. -/
theorem holds_own {T : Type} {E : El T} {e : TypeId} {β : Type} (D : Nat) (v : β → Value) (f : β → List T) : Holds D (fun s W => OwE E e W (v s) (f s)) := fun s A B hs ht => by
  refine hs.turn ht fun k hk => ?_
  rintro ⟨_, o, ho, hc⟩
  rcases hs.form with ⟨e1, _⟩ | ⟨g, cap, cur, e1, hb, _⟩
  · rw [e1] at hk; cases hk
  · rw [e1] at hk
    cases hk
    rw [show A.heap[g]? = _ from hb] at ho
    cases ho
    cases hc
/-- Where a row of one's own turns alone, what holds no cells stays. -/
theorem own_still {w w' : World} {g B : Nat} (ht : Turn (fun k => k = g) w w') (hw : ∀ o, w.heap[g]? = some o → o.isCells = true) : Still B w w' := ⟨ht.size, fun k o _ hk ho => by
  by_cases e : k = g
  · subst e
    rw [hw o hk] at ho
    cases ho
  · exact (ht.block k (Array.getElem?_eq_some_iff.1 hk).1 e).trans hk⟩
theorem own_cells {T : Type} {E : El T} {e : TypeId} {w : World} {v : Value} {l : List T} {g : Nat} (h : OwE E e w v l) (hv : v.ownBlock = some g) : ∀ o, w.heap[g]? = some o → o.isCells = true := fun o ho => by
  rcases h.form with ⟨e1, _⟩ | ⟨g', cap, cur, e1, hb, _⟩
  · rw [e1] at hv; cases hv
  · rw [e1] at hv
    cases hv
    rw [show w.heap[g']? = _ from hb] at ho
    cases ho
    rfl
/-- What a range has told: as far as a place of the list, one by one. -/
theorem pre_at10 {A : Type} {L pre : List A} {y : A} (hp : pre ++ [y] <+: L) : L[pre.length]? = some y ∧ pre.length < L.length := by
  obtain ⟨r, hr⟩ := hp
  have h : L[pre.length]? = some y := by
    rw [← hr, List.append_assoc, List.getElem?_append_right (Nat.le_refl _), Nat.sub_self]; rfl
  exact ⟨h, (List.getElem?_eq_some_iff.1 h).1⟩
theorem box_ne10 {w : World} {i g : Nat} {t t' : TypeId} {cs cs' : Array Value} (h : Box w i t cs) (h' : Box w g t' cs') (ht : t ≠ t') : i ≠ g := by
  rintro rfl
  have e := (show w.heap[i]? = _ from h).symm.trans h'
  injection e with e
  injection e with _ e3
  exact ht e3
theorem box_not_own {T : Type} {E : El T} {e t : TypeId} {w : World} {v : Value} {l : List T} {i g : Nat} {cs : Array Value} (h : Box w i t cs) (h' : OwE E e w v l) (hv : v.ownBlock = some g) (ht : e ≠ t) : i ≠ g := by
  rintro rfl
  exact h'.not_box h ht hv

end Go.Proofs.Ytklpmajaihmmfaa
