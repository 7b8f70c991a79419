/-
  Texts laid one behind the other: Hks Dpbs Dpr Dpds Ag Ex Ab Sb.
-/
import Derived.Test.YticglepkbihldaaGreatJocaj
import Derived.Test.YticglepkbihldaaGreatJocah
import Derived.Test.YticglepkbihldaaGreatJocai
import Derived.Test.YticglepkbihldaaGreatJocaf
import Derived.OwnWalkIn
import Derived.Test.YticglepkbihldaaGreatJocab
import Derived.Test.YticglepkbihldaaGreatJocae

/-
  A map's keys, rising, by a range over a function: rising, All (keys string, values int).
-/
namespace Go.Proofs.YticglepkbihldaaGreat.oms
open Go.RowKit Go.Shelf
attribute [local go_sem] Oper.semAt_some wide_fn

theorem yield_depth {m m' : Nat} {P : Program} {l : Nat} {args : Array Value} {W : World} {R : Ending → World → Prop} (h : YieldAt Fence.wide m P l args W R) : YieldAt Fence.wide m' P l args W R := by
  obtain ⟨fn, tmps, assign, body, hy, hR⟩ := h
  exact ⟨fn, tmps, assign, body, hy, hR.1, fun c cs _ => hR.2 c cs (room_wide _)⟩
theorem calls_depth {m m' : Nat} {P : Program} {f : FuncId} {args : Array Value} {W : World} {R : Ending → World → Prop} (h : CallsIn Fence.wide m P f args W R) : CallsIn Fence.wide m' P f args W R := callsIn_wide.2 (callsIn_wide.1 h)

/-- What a range over a map has at hand: where its tree's root, and what says what is ahead, lie; the tree; what is ahead. -/
structure Src (w : World) (q1 q2 : Nat) (A : Option Addr) (fa : Nat) (caps : Array Value) (x : Tr (List UInt8) Int) (ah : (List UInt8) → Bool) : Prop where
  root : Box w q1 165 #[.pointer A]
  fun' : Box w q2 164 #[.func (.func fa) #[] caps]
  tree : Nd w x (.pointer A)
  up : Up Op.bytesLess x.flat
  enters : ∀ args w, (callFunc fa args).run Tryz.prog w = .ok (.enter fa args) w
  falls : Falls ah

set_option maxRecDepth 100000 in
set_option maxHeartbeats 1000000 in
theorem rising_feeds (n : Nat) {w : World} {q1 q2 : Nat} {A : Option Addr} {fa : Nat} {caps : Array Value} {x : Tr (List UInt8) Int} {ah : (List UInt8) → Bool} (h : Src w q1 q2 A fa caps x ah) (S : Nat → Prop) (h1 : ¬ S q1) (h2 : ¬ S q2) (hB : Base S w)
    (hA : ∀ key W, Turn S w W → Calls Tryz.prog fa (#[(.string ⟨key.toArray⟩)] ++ caps) W fun e W' => e = .returned (.bool (ah key)) ∧ W = W') :
    Feeds n 134 #[.pointer (some ⟨q1, 0, none⟩), .pointer (some ⟨q2, 0, none⟩)] prs S (fun pre y _ => pre ++ [y] <+: Kept ah x) (fun xs => xs = Kept ah x) (fun pre => pre <+: Kept ah x) w := fun l J Jx W hW _ _ hJ hJx hY h0 => by
  have hWS : Turn S w W := hW.none
  have hc1 := (h.root.turn hWS h1).cell 0
  have hc2 := (h.fun'.turn hWS h2).cell 0
  have HR : Hid (Rounds l fa caps ah S w J Jx (Kept ah x)) := ⟨fun pre W1 hj => hJ _ _ _ hj ((Turn.refl (fun _ => False) W1).drew.none), h.enters, hA, fun pre y W1 hj _ hp => yield_depth (hY pre y W1 hj hp)⟩
  have HE := Lib.hid (each_any l fa caps ah S w J Jx (Kept ah x) HR.out hB h.falls x (.pointer A) [] W h.tree hWS h0 h.up (by rw [List.nil_append]; exact List.prefix_refl _))
  clear h0 hJ hJx hY hA h hB HR
  refine callsIn_of_wp Tryz.func134 rfl trivial ?_ rfl
  simp only [Tryz.ntmps134, List.size_toArray, List.length_cons, List.length_nil, Nat.reduceAdd, Nat.reduceSub, Array.replicate_succ, Array.replicate_zero, List.push_toArray, List.append_toArray, List.nil_append, List.cons_append]
  gi_wp2_with fail
  refine ⟨fun h => by (cases h), (calls_depth HE.out).mono ?_⟩
  rintro e W1 (⟨rfl, hj, _, _⟩ | ⟨rfl, ⟨q, hq, hx⟩, _⟩)
  · have HJ := Lib.hid hj; clear hj
    gi_wp2
    go_end0
    exact ⟨⟨_, rfl⟩, .inl ⟨_, rfl, by have := HJ.out; rwa [List.nil_append] at this⟩⟩
  · have HX := Lib.hid hx; have HQ := Lib.hid hq; clear hx hq
    gi_wp2
    go_end0
    exact ⟨⟨_, rfl⟩, .inr ⟨q, by have := HQ.out; rwa [List.nil_append] at this, HX.out⟩⟩

/-- The range over a map that rising makes. -/
def RisV (q1 q2 : Nat) : Value := .func (.func 134) #[] #[.pointer (some ⟨q1, 0, none⟩), .pointer (some ⟨q2, 0, none⟩)]
structure Ris (w w' : World) (q1 q2 : Nat) (fa : Nat) (caps : Array Value) (L : List ((List UInt8) × Int)) : Prop where
  out : ∃ (A : Option Addr) (x : Tr (List UInt8) Int), Box w' q1 165 #[.pointer A] ∧ Box w' q2 164 #[.func (.func fa) #[] caps] ∧ Nd w' x (.pointer A) ∧ x.flat = L
  up : Up Op.bytesLess L
  new1 : w.heap.size ≤ q1
  new2 : w.heap.size ≤ q2
  turn : Turn (fun _ => False) w w'

set_option maxRecDepth 100000 in
theorem rising_any (fa : Nat) (caps : Array Value) {w : World} {g : Nat} {L : List ((List UInt8) × Int)} (h : MP w g L) :
    Calls Tryz.prog 118 #[.pointer (some ⟨g, 0, none⟩), .func (.func fa) #[] caps] w fun e w' => ∃ q1 q2, e = .returned (RisV q1 q2) ∧ Ris w w' q1 q2 fa caps L := by
  have HU := Lib.hid h.up
  obtain ⟨x, A, hb, hx, hf⟩ := h.out
  have hne1 : w.heap.size ≠ g := by have := hb.lt; omega
  have hne2 : w.heap.size + 1 ≠ g := by have := hb.lt; omega
  have hc := ((hb.alloc (.cells #[.func (.func fa) #[] caps] 164)).alloc (.cells #[.pointer none] 165)).cell 0
  have HX := Lib.hid hx; have HF := Lib.hid hf
  clear h hb hx hf
  go_enter Tryz.func118, Tryz.ntmps118
  go_wp2
  go_ret
  exact ⟨w.heap.size + 1, w.heap.size, rfl, ⟨A, x, by have := Box.new (w.alloc (.cells #[.func (.func fa) #[] caps] 164)) 165 #[.pointer (A)]; rw [World.size_alloc] at this; exact this, (Box.new w 164 #[.func (.func fa) #[] caps]).alloc _, HX.out.later (((Turn.refl _ w).alloc _).alloc _), HF.out⟩, HU.out, Nat.le_succ _, Nat.le_refl _, ((Turn.refl _ w).alloc _).alloc _⟩

set_option maxRecDepth 100000 in
theorem rising_nil (fa : Nat) (caps : Array Value) (w : World) :
    Calls Tryz.prog 118 #[.pointer none, .func (.func fa) #[] caps] w fun e w' => ∃ q1 q2, e = .returned (RisV q1 q2) ∧ Ris w w' q1 q2 fa caps [] := by
  have HU : Hid (Up Op.bytesLess ([] : List ((List UInt8) × Int))) := up_nil
  go_enter Tryz.func118, Tryz.ntmps118
  go_wp2
  go_ret
  exact ⟨w.heap.size + 1, w.heap.size, rfl, ⟨none, .nil, by have := Box.new (w.alloc (.cells #[.func (.func fa) #[] caps] 164)) 165 #[.pointer (none)]; rw [World.size_alloc] at this; exact this, (Box.new w 164 #[.func (.func fa) #[] caps]).alloc _, rfl, rfl⟩, HU.out, Nat.le_succ _, Nat.le_refl _, ((Turn.refl _ w).alloc _).alloc _⟩

set_option maxRecDepth 100000 in
theorem none_any (key : (List UInt8)) (w : World) : Calls Tryz.prog 119 #[(.string ⟨key.toArray⟩)] w fun e w' => e = .returned (.bool false) ∧ w = w' := by
  go_enter Tryz.func119, Tryz.ntmps119
  go_wp2
  go_ret
  exact ⟨rfl, rfl⟩

/-- What All makes, of a map whose list is L. -/
def AllPost (w : World) (L : List ((List UInt8) × Int)) (e : Ending) (w' : World) : Prop := ∃ q1 q2, e = .returned (RisV q1 q2) ∧ Ris w w' q1 q2 119 #[] L

set_option maxRecDepth 100000 in
theorem all_any {w : World} {g : Nat} {L : List ((List UInt8) × Int)} (h : MP w g L) :
    Calls Tryz.prog 92 #[.pointer (some ⟨g, 0, none⟩)] w fun e w' => AllPost w L e w' := by
  have HR := Lib.hid (rising_any 119 #[] h)
  clear h
  go_enter Tryz.func92, Tryz.ntmps92
  go_wp2_with (go_at_call 118; refine HR.out.mono ?_; rintro e w' ⟨q1, q2, rfl, hr⟩; have HX := Lib.hid hr; clear hr; unfold RisV)
  go_ret
  exact ⟨q1, q2, rfl, HX.out⟩
set_option maxRecDepth 100000 in
theorem all_nil (w : World) : Calls Tryz.prog 92 #[.pointer none] w fun e w' => AllPost w [] e w' := by
  have HR := Lib.hid (rising_nil 119 #[] w)
  go_enter Tryz.func92, Tryz.ntmps92
  go_wp2_with (go_at_call 118; refine HR.out.mono ?_; rintro e w' ⟨q1, q2, rfl, hr⟩; have HX := Lib.hid hr; clear hr; unfold RisV)
  go_ret
  exact ⟨q1, q2, rfl, HX.out⟩

theorem kept_none (x : Tr (List UInt8) Int) : Kept (fun _ => false) x = x.flat := by unfold Kept; simp

theorem all_feeds (n : Nat) {w w' : World} {q1 q2 : Nat} {L : List ((List UInt8) × Int)} (h : Ris w w' q1 q2 119 #[] L) (S : Nat → Prop) (h1 : ¬ S q1) (h2 : ¬ S q2) (hB : Base S w') :
    Feeds n 134 #[.pointer (some ⟨q1, 0, none⟩), .pointer (some ⟨q2, 0, none⟩)] prs S (fun pre y _ => pre ++ [y] <+: L) (fun xs => xs = L) (fun pre => pre <+: L) w' := by
  obtain ⟨A, x, hb1, hb2, hx, hf⟩ := h.out
  have hs : Src w' q1 q2 A 119 #[] x (fun _ => false) := ⟨hb1, hb2, hx, by rw [hf]; exact h.up, enters_of Tryz.func119 (by kernel_rfl) rfl, fun _ _ _ h => h⟩
  have := rising_feeds n hs S h1 h2 hB (fun key W _ => none_any key W)
  rw [kept_none, hf] at this
  exact this

end Go.Proofs.YticglepkbihldaaGreat.oms

/-
  Stage 10: the program's dictionary in memory; Len, At, Code (things string).
-/
namespace Go.Proofs.YticglepkbihldaaGreat
open Go.RowKit

set_option maxRecDepth 100000

/-- A dictionary's things; a nil one has none. -/
structure DV10 (w : World) (v : Value) (L : List (List UInt8)) : Prop where
  out : (v = .pointer none ∧ L = []) ∨ ∃ d g sl, v = .pointer (some ⟨d, 0, none⟩) ∧ Box w d 141 #[.pointer (some ⟨g, 0, none⟩), sl] ∧ oms.MP w g (numFrom 0 L) ∧ RdE ET10 w sl L
  up : L.Pairwise fun x y => Op.bytesLess x y = true
  len : L.length ≤ 20000
  typ : v ≠ .pointer none → ∃ b x sl, v = .pointer (some ⟨b, 0, none⟩) ∧ Box w b 141 #[x, sl] ∧ ∀ k, sl.ownBlock = some k → ∃ cs, Box w k 9 cs
theorem DV10.later {w w' : World} {v : Value} {L : List (List UInt8)} (h : DV10 w v L) (ht : Turn (fun _ => False) w w') : DV10 w' v L :=
  ⟨h.out.imp id fun ⟨d, g, sl, e, hb, hm, hr⟩ => ⟨d, g, sl, e, hb.turn ht (fun f => f), hm.later ht, hr.later ht⟩, h.up, h.len, fun hn => (h.typ hn).imp fun _ ⟨x, sl, e, hb, hk⟩ => ⟨x, sl, e, hb.turn ht (fun f => f), fun k e => (hk k e).imp fun _ hc => hc.turn ht (fun f => f)⟩⟩
theorem DV10.nil (w : World) : DV10 w (.pointer none) [] := ⟨.inl ⟨rfl, rfl⟩, List.Pairwise.nil, Nat.zero_le _, fun h => absurd rfl h⟩
theorem DV10.ptr {w : World} {v : Value} {L : List (List UInt8)} (h : DV10 w v L) : ∃ p, v = .pointer p := by
  rcases h.out with ⟨rfl, _⟩ | ⟨d, g, sl, rfl, _⟩
  · exact ⟨_, rfl⟩
  · exact ⟨_, rfl⟩

theorem len_same_any10 (d : Value) (L : List (List UInt8)) (w : World) (h : DV10 w d L) : Calls Tryz.prog 107 #[d] w fun e w' => e = .returned (.int .i64 (L.length : Int)) ∧ w = w' := by
  rcases h.out with ⟨rfl, rfl⟩ | ⟨d, g, sl, rfl, hb, hm, hr⟩
  · clear h
    go_enter Tryz.func107, Tryz.ntmps107
    go_wp2
    go_ret
    exact ⟨rfl, rfl⟩
  · obtain ⟨A, c, rfl⟩ := hr.shape
    have c1 := hb.cell 1
    clear h hb hm hr
    go_enter Tryz.func107, Tryz.ntmps107
    go_wp2
    go_ret
    exact ⟨rfl, rfl⟩
theorem len_any10 (d : Value) (L : List (List UInt8)) (w : World) (h : DV10 w d L) : Calls Tryz.prog 107 #[d] w fun e w' => e = .returned (.int .i64 (L.length : Int)) ∧ Turn (fun _ => False) w w' :=
  (len_same_any10 d L w h).mono fun _ _ ⟨he, hw⟩ => ⟨he, by rw [← hw]; exact Turn.refl _ w⟩

/-- What is answered. -/
def codeA (x : List UInt8) (L : List (List UInt8)) : Value := .tuple #[.int .i64 (if idxG x L < L.length then (idxG x L : Int) else 0), .bool (decide (idxG x L < L.length))]
def atT (n : Int) (L : List (List UInt8)) : Option (List UInt8) := if 0 ≤ n then L[n.toNat]? else none
def atA (n : Int) (L : List (List UInt8)) : Value := .tuple #[sv10 ((atT n L).getD []), .bool (atT n L).isSome]

set_option maxHeartbeats 2000000 in
theorem code_any10 (d : Value) (L : List (List UInt8)) (x : List UInt8) (w : World) (h : DV10 w d L) : Calls Tryz.prog 52 #[d, sv10 x] w fun e w' => e = .returned (codeA x L) ∧ Turn (fun _ => False) w w' := by
  rcases h.out with ⟨rfl, rfl⟩ | ⟨d, g, sl, rfl, hb, hm, hr⟩
  · clear h
    go_enter Tryz.func52, Tryz.ntmps52
    go_wp2
    go_ret2
    exact ⟨by simp [codeA, idxG], Turn.refl _ w⟩
  · have HG := Lib.hid (oms.get_any x hm)
    rw [numFrom_get rises_bytes x 0 h.up] at HG
    have c0 := hb.cell 0
    clear h hb hm hr
    unfold sv10
    by_cases hi : idxG x L < L.length
    · rw [if_pos hi] at HG
      go_enter Tryz.func52, Tryz.ntmps52
      go_wp2_with (go_at_call 93; refine (HG.out).mono ?_; rintro e w' ⟨rfl, ht⟩; have HT := Lib.hid ht; clear ht; unfold oms.getA)
      go_ret2
      exact ⟨by simp [codeA, hi], HT.out⟩
    · rw [if_neg hi] at HG
      go_enter Tryz.func52, Tryz.ntmps52
      go_wp2_with (go_at_call 93; refine (HG.out).mono ?_; rintro e w' ⟨rfl, ht⟩; have HT := Lib.hid ht; clear ht; unfold oms.getA)
      go_ret2
      exact ⟨by simp [codeA, hi], HT.out⟩

set_option maxHeartbeats 2000000 in
theorem at_any10 (d : Value) (L : List (List UInt8)) (n : Int) (w : World) (h : DV10 w d L) : Calls Tryz.prog 129 #[d, .int .i64 n] w fun e w' => e = .returned (atA n L) ∧ Turn (fun _ => False) w w' := by
  have HLN := Lib.hid (len_same_any10 d L w h)
  obtain ⟨p, rfl⟩ := h.ptr
  by_cases hn : 0 ≤ n ∧ n < L.length
  · obtain ⟨n0, n1⟩ := hn
    obtain ⟨N, rfl⟩ := Int.eq_ofNat_of_zero_le n0
    have hNl : N < L.length := by omega
    obtain ⟨y, hy⟩ : ∃ y, L[N]? = some y := ⟨_, List.getElem?_eq_getElem hNl⟩
    have EA : Hid (atA (N : Int) L = .tuple #[sv10 y, .bool true]) := by show _ = _; unfold atA atT; rw [if_pos n0, Int.toNat_natCast, hy]; rfl
    rcases h.out with ⟨_, rfl⟩ | ⟨d, g, sl, e0, hb, hm, hr⟩
    · simp at hy
    · cases e0
      obtain ⟨A, c, rfl⟩ := hr.shape
      obtain ⟨ad, rfl, hc⟩ := str_at10 hr hy
      have HC := Lib.hid hc
      have c1 := hb.cell 1
      have e1 := hc w (Turn.refl _ w)
      unfold sv10 at e1 EA
      clear h hb hm hr hc hy
      go_enter Tryz.func129, Tryz.ntmps129
      go_wp2_with (go_at_call 107; with_reducible refine (HLN.out).mono ?_; rintro e w' ⟨rfl, rfl⟩)
      go_ret2
      exact ⟨by rw [EA.out]; rfl, Turn.refl _ w⟩
  · have EA : Hid (atA n L = .tuple #[(sv10 []), .bool false]) := by
      show _ = _
      have ey : atT n L = none := by
        unfold atT
        split
        · rw [List.getElem?_eq_none (by omega)]
        · rfl
      unfold atA
      rw [ey]
      rfl
    unfold sv10 at EA
    clear h
    by_cases n0 : n < 0
    · clear hn
      go_enter Tryz.func129, Tryz.ntmps129
      go_wp2_with (go_at_call 107; with_reducible refine (HLN.out).mono ?_; rintro e w' ⟨rfl, rfl⟩)
      go_ret2
      exact ⟨by rw [EA.out]; rfl, Turn.refl _ w⟩
    · have n1 : (L.length : Int) ≤ n := by omega
      clear hn
      go_enter Tryz.func129, Tryz.ntmps129
      go_wp2_with (go_at_call 107; with_reducible refine (HLN.out).mono ?_; rintro e w' ⟨rfl, rfl⟩)
      go_ret2
      exact ⟨by rw [EA.out]; rfl, Turn.refl _ w⟩

end Go.Proofs.YticglepkbihldaaGreat

/-
  append onto a row of one's own that has room: the row stays where it is. No type is named here.
-/
namespace Go.Proofs.YticglepkbihldaaGreat
open Go.RowKit

theorem run_app_room {P : Program} (w : World) (t tx ty e : TypeId) (i : TypeInfo) (ht : P.underlying t = some (.slice e)) (hi : P.info? e = some i)
    (g n cap : Nat) (xs : List Value) (hown : w.ownsRow 0 e i.size (.slice (some ⟨g, 0, none⟩) n cap) n xs) (x : Value) (m : Nat) (news : List Value) (hs : Src P i.size tx x m news w) (hroom : n + m ≤ cap) :
    ∃ w', (Builtin.append_ #[t, tx] ty #[.slice (some ⟨g, 0, none⟩) n cap, x]).run P w = .ok (.slice (some ⟨g, 0, none⟩) (n + m) cap) w' ∧ w'.ownsRow 0 e i.size (.slice (some ⟨g, 0, none⟩) (n + m) cap) (n + m) (xs ++ news) ∧ w.grownBy w' (some g) := by
  have hlen : (xs ++ news).length = (n + m) * i.size := by rw [List.length_append, hown.1, hs.newsLen, Nat.add_mul]
  rcases hown.2 with ⟨e1, _⟩ | ⟨g', cap', cur, e1, hb0, hg, hnc, hcm, hcs, htake⟩
  · cases e1
  · cases e1
    have hfit : n * i.size + news.length ≤ cur.size := by rw [hs.newsLen, hcs, ← Nat.add_mul]; exact Nat.mul_le_mul_right _ hroom
    have hst := run_storeCells_at P g (n * i.size) e news 0 cur w hg (by simpa using hfit) hs.one
    simp only [Nat.add_zero] at hst
    have hr : (Builtin.append_ #[t, tx] ty #[.slice (some ⟨g, 0, none⟩) n cap, x]).run P w =
        .ok (.slice (some ⟨g, 0, none⟩) (n + m) cap) (w.setRow g (cur.toList.take (n * i.size) ++ news ++ cur.toList.drop (n * i.size + news.length)).toArray) := by
      rcases hs.kind with ⟨e', hk⟩ | hk <;> simp [Builtin.append_, run_underlying ht, run_underlying hk, sizeOf, typeInfo, hi, hs.len, hs.cells, hroom, Addr.add_lit, hst]
    refine ⟨_, hr, ⟨hlen, .inr ⟨g, cap, _, rfl, hb0, setRow_heap w g cur _ e _ hg, hroom, hcm, ?_, ?_⟩⟩, ⟨rfl, rfl, rfl, by simp, fun k _ hk => setRow_other w g k _ (fun e => hk (by simp [e]))⟩⟩
    · simp only [List.size_toArray, List.length_append, List.length_take, List.length_drop, Array.length_toList]
      omega
    · rw [htake, ← hlen]
      exact List.take_left
theorem app_room {P : Program} {T : Type} {E : El T} {tS e : TypeId} {z : Value} {by' : Nat} (ht : P.underlying tS = some (.slice e)) (hi0 : (P.info? e).map (fun i => (i.zero, i.size, i.bytes)) = some (some z, E.sz, by'))
    (w : World) (tx ty : TypeId) (g n c : Nat) (l : List T) (hown : OwE E e w (.slice (some ⟨g, 0, none⟩) n c) l) (y : Value) (m : List T) (hy : Src P E.sz tx y m.length (E.flat m) w) (hroom : l.length + m.length ≤ c) :
    ∃ w', (Builtin.append_ #[tS, tx] ty #[.slice (some ⟨g, 0, none⟩) n c, y]).run P w = .ok (.slice (some ⟨g, 0, none⟩) (l.length + m.length) c) w' ∧ OwE E e w' (.slice (some ⟨g, 0, none⟩) (l.length + m.length) c) (l ++ m) ∧ Turn (fun k => k = g) w w' := by
  obtain ⟨i, hi, hz0, h1, h2⟩ := info_parts hi0
  obtain ⟨_, _, hsh⟩ := hown.shape
  obtain rfl : n = l.length := by injection hsh
  unfold OwE at hown
  rw [← h1] at hown hy
  obtain ⟨w', hr, g1, g2⟩ := run_app_room (P := P) w tS tx ty e i ht hi g _ c _ hown y m.length _ hy hroom
  refine ⟨w', hr, ?_, (Turn.refl _ w).grown g2 (fun k _ e => by cases e; rfl)⟩
  unfold OwE
  rw [List.length_append, E.flat_append, ← h1]
  exact g1

/-- append where there is room, in a round of a range over a function. -/
theorem wpListIn_room {F : Fence} {k : Nat} {P : Program} {T : Type} {E : El T} {tS e : TypeId} {z : Value} {by' : Nat} (ht : P.underlying tS = some (.slice e)) (hi0 : (P.info? e).map (fun i => (i.zero, i.size, i.bytes)) = some (some z, E.sz, by'))
    (w : World) {ops : Array Oper} {rest : List Oper} {o : Oper} {a : Act} {Q : Exit → Act → World → Prop} (hgd : o.guard = none) (s x : Operand)
    (ho : o.op = .call { callee := .builtin .append, args := #[s, x], argTypes := #[tS, tS] }) (g n c : Nat) (l : List T) (hs : a.eval s = .slice (some ⟨g, 0, none⟩) n c) (hown : OwE E e w (.slice (some ⟨g, 0, none⟩) n c) l)
    (y : Value) (hx : a.eval x = y) (m : List T) (hy : Src P E.sz tS y m.length (E.flat m) w) (hroom : l.length + m.length ≤ c)
    (h : ∀ w', OwE E e w' (.slice (some ⟨g, 0, none⟩) (l.length + m.length) c) (l ++ m) → Turn (fun k => k = g) w w' → wpListIn F k P ops Q rest (a.put o.dst (.slice (some ⟨g, 0, none⟩) (l.length + m.length) c)) w') :
    wpListIn F k P ops Q (o :: rest) a w := by
  refine wpListIn_plain hgd fun K hK' => ?_
  obtain ⟨w', hrun, r1, r2⟩ := app_room (P := P) ht hi0 w tS o.type g n c l hown y m hy hroom
  unfold Oper.wpIn
  refine ⟨?_, ?_⟩
  · simp [Oper.about, ho, resolve, Target.leads, Sem.run_pure]
  · rw [Oper.semAt_plain F _ _ (by rw [ho]; intro c hc'; cases hc')]
    simp [execOp, ho, resolve, invoke, builtin, hs, hx, hrun, Result.andThen]
    exact hK' _ _ (h w' r1 r2)
/-- A row of one's own holds cells: no record of a loop is in it. -/
theorem holds_own {T : Type} {E : El T} {e : TypeId} {β : Type} (D : Nat) (v : β → Value) (f : β → List T) : Holds D (fun s W => OwE E e W (v s) (f s)) := fun s A B hs ht => by
  refine hs.turn ht fun k hk => ?_
  rintro ⟨_, o, ho, hc⟩
  rcases hs.form with ⟨e1, _⟩ | ⟨g, cap, cur, e1, hb, _⟩
  · rw [e1] at hk; cases hk
  · rw [e1] at hk
    cases hk
    rw [show A.heap[g]? = _ from hb] at ho
    cases ho
    cases hc
/-- Where a row of one's own turns alone, what holds no cells stays. -/
theorem own_still {w w' : World} {g B : Nat} (ht : Turn (fun k => k = g) w w') (hw : ∀ o, w.heap[g]? = some o → o.isCells = true) : Still B w w' := ⟨ht.size, fun k o _ hk ho => by
  by_cases e : k = g
  · subst e
    rw [hw o hk] at ho
    cases ho
  · exact (ht.block k (Array.getElem?_eq_some_iff.1 hk).1 e).trans hk⟩
theorem own_cells {T : Type} {E : El T} {e : TypeId} {w : World} {v : Value} {l : List T} {g : Nat} (h : OwE E e w v l) (hv : v.ownBlock = some g) : ∀ o, w.heap[g]? = some o → o.isCells = true := fun o ho => by
  rcases h.form with ⟨e1, _⟩ | ⟨g', cap, cur, e1, hb, _⟩
  · rw [e1] at hv; cases hv
  · rw [e1] at hv
    cases hv
    rw [show w.heap[g']? = _ from hb] at ho
    cases ho
    rfl
/-- What a range has told: as far as a place of the list, one by one. -/
theorem pre_at10 {A : Type} {L pre : List A} {y : A} (hp : pre ++ [y] <+: L) : L[pre.length]? = some y ∧ pre.length < L.length := by
  obtain ⟨r, hr⟩ := hp
  have h : L[pre.length]? = some y := by
    rw [← hr, List.append_assoc, List.getElem?_append_right (Nat.le_refl _), Nat.sub_self]; rfl
  exact ⟨h, (List.getElem?_eq_some_iff.1 h).1⟩
theorem box_ne10 {w : World} {i g : Nat} {t t' : TypeId} {cs cs' : Array Value} (h : Box w i t cs) (h' : Box w g t' cs') (ht : t ≠ t') : i ≠ g := by
  rintro rfl
  have e := (show w.heap[i]? = _ from h).symm.trans h'
  injection e with e
  injection e with _ e3
  exact ht e3
theorem box_not_own {T : Type} {E : El T} {e t : TypeId} {w : World} {v : Value} {l : List T} {i g : Nat} {cs : Array Value} (h : Box w i t cs) (h' : OwE E e w v l) (hv : v.ownBlock = some g) (ht : e ≠ t) : i ≠ g := by
  rintro rfl
  exact h'.not_box h ht hv

end Go.Proofs.YticglepkbihldaaGreat

/-
  Stage 10: the program's Of: all things put, then told in order, then each with its number (things string).
-/
namespace Go.Proofs.YticglepkbihldaaGreat
open Go.RowKit Go.Shelf
attribute [local go_sem] Oper.semAt_some wide_fn

/-- Behind Of. -/
def Of_any10 (w : World) (l : List (List UInt8)) (e : Ending) (w' : World) : Prop := ∃ d, e = .returned d ∧ DV10 w' d (setG Op.bytesLess l) ∧ d ≠ .pointer none ∧ Turn (fun _ => False) w w'

set_option maxRecDepth 100000 in
set_option maxHeartbeats 8000000 in
theorem of_post_any10 (v : Value) (l : List (List UInt8)) (w : World) (hv : RdE ET10 w v l) (hl : l.length ≤ 20000) : Calls Tryz.prog 51 #[v] w fun e w' => Of_any10 w l e w' := by
  have HV := Lib.hid hv
  obtain ⟨A, c, rfl⟩ := hv.shape
  clear hv
  refine (callsIn_wide (n := 5)).1 ?_
  refine callsIn_of_wp_marks Tryz.func51 rfl trivial ?_ rfl
  simp only [Tryz.ntmps51, List.size_toArray, List.length_cons, List.length_nil, Nat.reduceAdd, Nat.reduceSub, Array.replicate_succ, Array.replicate_zero, List.push_toArray, List.append_toArray, List.nil_append, List.cons_append]
  refine wpIn_wide.2 ?_
  go_wp2_with fail
  refine (oms.new_any _).mono ?_
  rintro e w1 ⟨rfl, hm1, t1⟩
  obtain ⟨g, hg⟩ : ∃ g : Nat, g = w.heap.size := ⟨_, rfl⟩
  rw [← hg] at hm1 ⊢
  have HG := Lib.hid hg
  have HM1 := Lib.hid hm1; have HT1 := Lib.hid t1
  clear hm1 t1 hg
  go_wp2_with fail
  go_loopw [13] (fun x13 wr => ∃ (i : Nat) (M : List ((List UInt8) × Int)), x13 = .int .i64 (i : Int) ∧ i ≤ l.length ∧ oms.MP wr g M ∧ AllPut Op.bytesLess l i M ∧ Turn (fun _ => False) w wr) (fun x13 _ => l.length - (intOf x13).toNat)
  case atStart => exact ⟨0, [], rfl, Nat.zero_le _, HM1.out, AllPut.start l, HT1.out⟩
  case round =>
    obtain ⟨i, M, rfl, hi, hm, hp, ht⟩ := hrel
    have HM := Lib.hid hm; have HP := Lib.hid hp; have HT := Lib.hid ht
    have hml := hp.len
    clear hm hp ht
    by_cases hlt : i < l.length
    · obtain ⟨x, hx⟩ : ∃ x, l[i]? = some x := ⟨_, List.getElem?_eq_getElem hlt⟩
      obtain ⟨ad, rfl, hc⟩ := str_at10 HV.out hx
      have e0 := hc _ HT.out
      unfold sv10 at e0
      have hil : (i : Int) < l.length := by omega
      have HP2 := Lib.hid (HP.out.step rises_bytes hx 0)
      clear hc hx
      go_wp2_with fail
      refine (oms.put_any x 0 HM.out (by omega)).mono ?_
      rintro e w2 ⟨rfl, hm2, t2⟩
      have HM2 := Lib.hid hm2
      have HT2 : Hid (Turn (fun _ => False) w w2) := HT.out.trans t2 (fun k hk e => by have := HG.out; omega)
      clear hm2 t2
      go_wp2
      go_roundw
      case rel => exact ⟨i + 1, _, by go_num, hlt, HM2.out, HP2.out, HT2.out⟩
      case measure => simp [intOf]; omega
    · obtain rfl : i = l.length := by omega
      have HK : Hid (M.map (·.1) = setG Op.bytesLess l) := HP.out.keys rises_bytes
      generalize hL : setG Op.bytesLess l = L at *
      have hLM : M.length = L.length := by rw [← HK.out, List.length_map]
      go_wp2_with fail
      refine (oms.len_any HM.out).mono ?_
      rintro e w2 ⟨rfl, rfl⟩
      rw [hLM] 
      have hmk := made_texts10 L.length (by omega) wr
      have HR0 := Lib.hid (own_texts10 L.length (by omega) wr)
      go_wp2_with fail
      clear hmk
      obtain ⟨R, hR⟩ : ∃ R : Nat, R = wr.heap.size := ⟨_, rfl⟩
      obtain ⟨wb, hwb⟩ : ∃ wb, wb = (wr.alloc (.cells (madeCells #[.string ⟨#[]⟩] L.length) 9)).alloc (.cells #[.slice (some ⟨R, 0, none⟩) 0 L.length] 31) := ⟨_, rfl⟩
      have HTB : Hid (Turn (fun _ => False) wr wb) := by rw [hwb]; exact ((Turn.refl _ wr).alloc _).alloc _
      have HBX : Hid (Box wb (R + 1) 31 #[.slice (some ⟨R, 0, none⟩) 0 L.length]) := by
        rw [hwb, hR]
        have h := Box.new (wr.alloc (.cells (madeCells #[.string ⟨#[]⟩] L.length) 9)) 31 #[.slice (some ⟨wr.heap.size, 0, none⟩) 0 L.length]
        rw [World.size_alloc] at h
        exact h
      have HRO : Hid (OwE ET10 9 wb (.slice (some ⟨R, 0, none⟩) 0 L.length) []) := by
        rw [hwb, hR]
        exact HR0.out.turn ((Turn.refl (fun _ => False) _).alloc _) (fun _ _ f => f)
      have HGR : Hid (g < R) := by obtain ⟨_, _, hb, _⟩ := HM.out.out; rw [hR]; exact hb.lt
      rw [← hR]
      rw [← hwb]
      clear hwb hR HR0
      refine (oms.all_any (HM.out.later HTB.out)).mono ?_
      rintro e w5 ⟨q1, q2, rfl, hr⟩
      have HRA := Lib.hid hr
      have HB5 := Lib.hid (HBX.out.turn hr.turn (fun f => f))
      have HO5 := Lib.hid (HRO.out.later hr.turn)
      have HT5 : Hid (Turn (fun _ => False) wr w5) := HTB.out.trans hr.turn (fun _ _ f => f)
      have HM5 := Lib.hid (HM.out.later HT5.out)
      have HTW5 : Hid (Turn (fun _ => False) w w5) := HT.out.trans HT5.out (fun _ _ f => f)
      obtain ⟨A5, x5, hq1, hq2, -, -⟩ := hr.out
      have hz := HBX.out.lt
      have HQ : Hid (R + 1 < q1 ∧ R + 1 < q2 ∧ q1 < w5.heap.size ∧ q2 < w5.heap.size ∧ R + 1 < w5.heap.size) := ⟨by have := hr.new1; omega, by have := hr.new2; omega, hq1.lt, hq2.lt, HB5.out.lt⟩
      clear hr hq1 hq2 hz
      unfold oms.RisV
      go_wp2_with fail
      refine (wpIn_wide (n := 5)).1 ?_
      refine' over2 (n := 5) (by omega) (gf := 134) (lb := #[.pointer (some ⟨q1, 0, none⟩), .pointer (some ⟨q2, 0, none⟩)]) rfl (enters_of Tryz.func134 (by kernel_rfl) rfl)
        (oms.all_feeds 4 HRA.out (fun k => k = R ∨ k = R + 1 ∨ k = w5.heap.size + 1) (by have := HQ.out; omega) (by have := HQ.out; omega) ⟨fun g cs hb e => by
          rcases e with e | e | e
          · exact box_not_own hb HO5.out rfl (by decide) e
          · exact box_ne10 hb HB5.out (by decide) e
          · have := hb.lt; omega⟩) (Turn.refl _ _) (Or.inr (Or.inr rfl)) (fun k e => by have := HQ.out; omega) (fun pre => fun _ _ _ h _ => h) (fun _ => rfl)
        (fun (pre : List ((List UInt8) × Int)) V => Box V (R + 1) 31 #[.slice (some ⟨R, 0, none⟩) pre.length L.length] ∧ OwE ET10 9 V (.slice (some ⟨R, 0, none⟩) pre.length L.length) (pre.map (·.1)) ∧ Turn (fun k => k = R ∨ k = R + 1) w5 V)
        (fun _ _ _ => False) (Holds.and (holds_box _ _ _ (fun (pre : List ((List UInt8) × Int)) => #[.slice (some ⟨R, 0, none⟩) pre.length L.length])) (Holds.and (holds_own _ (fun (pre : List ((List UInt8) × Int)) => .slice (some ⟨R, 0, none⟩) pre.length L.length) (fun pre => pre.map (·.1))) (holds_turn (fun k h1 h2 => by omega)))) (fun _ _ _ _ h _ => h) ⟨HB5.out, HO5.out, Turn.refl _ _⟩ _ ?assign ?body ?done ?stop
      case assign =>
        intro l0 x W K hK
        have HK := Lib.hid hK; clear hK
        gi_wp2
        exact HK.out
      case stop =>
        rintro D c0 pre V _ _ h _
        exact h.elim
      case body =>
        rintro l0 pre y V ⟨hb, ho, ht⟩ hgv
        obtain ⟨k, n⟩ := y
        dsimp only
        have cB := hb.cell 0
        have fB := hb.free 0
        have hpl := (pre_at10 hgv).2
        have HB := Lib.hid hb; have HO := Lib.hid ho; have HTV := Lib.hid ht
        clear hb ho ht hgv
        have hpn : (pre.map (·.1)).length = pre.length := List.length_map _
        have HN1 := Lib.hid (HO.out.later ((Turn.refl (fun _ => False) V).alloc (.cells #[(sv10 k)] 9)))
        have HSR := Lib.hid ((one_row ET10 9 V k).src Tryz.underlying31)
        gi_wp2_with (gi_at_builtin; refine wpListIn_room Tryz.underlying31 str_info10 _ rfl _ _ rfl R pre.length L.length _ rfl HN1.out _ rfl [k] HSR.out (by rw [hpn]; simp only [List.length_cons, List.length_nil]; omega) ?_; intro w6 ho6 ht6; have HO6 := Lib.hid ho6; have HT6 := Lib.hid ht6; have b6 := (HB.out.turn ((Turn.refl (fun _ => False) V).alloc (.cells #[(sv10 k)] 9)) (fun f => f)).turn ht6 (by omega); have c6 := b6.cell 0; have f6 := b6.free 0; have HB6 := Lib.hid b6; clear ho6 ht6 b6)
        have e9 : (pre ++ [(k, n)] : List ((List UInt8) × Int)).length = pre.length + 1 := by rw [List.length_append]; rfl
        have HT16 : Hid (Turn (fun k => k = R ∨ k = R + 1) V w6) := ((Turn.refl (fun k => k = R ∨ k = R + 1) V).alloc (.cells #[(sv10 k)] 9)).trans HT6.out (fun _ _ e => .inl e)
        refine ⟨?_, ?_, ?_⟩
        · exact (Still.turned ((Turn.refl (fun _ => False) V).alloc (.cells #[(sv10 k)] 9))).trans ((own_still HT6.out (own_cells HN1.out rfl)).trans (Still.setCell _ _ _))
        · exact (HT16.out.mono (fun _ _ e => e.imp id .inl)).setCell (p := ⟨R + 1, 0, none⟩) (fun _ => .inr (.inl rfl)) _
        · refine ⟨?_, ?_, ?_⟩
          · rw [e9]
            exact HB6.out.set 0 (.slice (some ⟨R, 0, none⟩) (pre.length + 1) L.length)
          · rw [e9, List.map_append]
            have h := HO6.out.turn ((Turn.refl (fun k => k = R + 1) w6).setCell (p := ⟨R + 1, 0, none⟩) (fun _ => rfl) (.slice (some ⟨R, 0, none⟩) (pre.length + 1) L.length)) (fun k hk e => by simp only [Value.ownBlock, Option.some.injEq] at hk; omega)
            rw [hpn] at h
            exact h
          · exact (HTV.out.trans HT16.out (fun _ _ e => e)).setCell (p := ⟨R + 1, 0, none⟩) (fun _ => .inr rfl) _
      case done =>
        rintro D xs V hD hA ⟨hb, ho, ht⟩ hK
        obtain rfl : xs = M := hA
        have hm5 : oms.MP V g xs := HM5.out.turn ht (fun e => by have := HGR.out; omega) (fun i cs hi e => by
          rcases e with e | e
          · exact box_not_own hi HO5.out rfl (by decide) e
          · exact box_ne10 hi HB5.out (by decide) e)
        have hbr : ∃ cs, Box V R 9 cs := by
          rcases ho.form with ⟨e1, _⟩ | ⟨g', cap, cur, e1, hb', _⟩
          · cases e1
          · have e2 := congrArg Value.ownBlock e1
            simp only [Value.ownBlock, Option.some.injEq] at e2
            subst e2
            exact ⟨_, hb'⟩
        have HBR := Lib.hid hbr
        clear hbr
        have hrd := ho.rd
        rw [HK.out, hLM] at hrd
        rw [hLM] at hb
        have cB := hb.cell 0
        have HB := Lib.hid hb; have HR := Lib.hid hrd; have HTV := Lib.hid ht; have HMV := Lib.hid hm5; have HKD := Lib.hid hK; have HDD := Lib.hid hD
        clear hb ho ht hm5 hK hD hrd
        have HN0 : Hid (oms.MP V g (Numbered L xs 0)) := by show oms.MP _ _ _; rw [numbered_start]; exact HMV.out
        go_wp2_with fail
        go_loopw [34] (fun x34 wz => ∃ j : Nat, x34 = .int .i64 (j : Int) ∧ j ≤ L.length ∧ oms.MP wz g (Numbered L xs j) ∧ Turn (fun k => k = g) V wz) (fun x34 _ => L.length - (intOf x34).toNat)
        case atStart => exact ⟨0, rfl, Nat.zero_le _, HN0.out, Turn.refl _ _⟩
        case round =>
          obtain ⟨j, rfl, hj, hmz, htz⟩ := hrel
          have HMZ := Lib.hid hmz; have HTZ := Lib.hid htz
          have hrz := HR.out.turn htz (fun b hb e => by simp only [Value.ownBlock, Option.some.injEq] at hb; have := HGR.out; omega)
          have HRZ := Lib.hid hrz
          clear hmz htz
          by_cases hlt2 : j < L.length
          · obtain ⟨x, hx⟩ : ∃ x, L[j]? = some x := ⟨_, List.getElem?_eq_getElem hlt2⟩
            obtain ⟨ad, ead, hc⟩ := str_at10 hrz hx
            cases ead
            have e0 := hc _ (Turn.refl _ _)
            rw [own_add] at e0
            unfold sv10 at e0
            have hjl : (j : Int) < L.length := by omega
            have HNX := Lib.hid (numbered_step rises_bytes HK.out hx HMZ.out.up)
            have HNL := Lib.hid (numbered_len (L := L) HK.out j)
            clear hc hx hrz
            go_wp2_with fail
            refine (oms.put_any x (j : Int) HMZ.out (by rw [HNL.out]; omega)).mono ?_
            rintro e w7 ⟨rfl, hm7, t7⟩
            rw [HNX.out] at hm7
            have HM7 := Lib.hid hm7
            have HT7 : Hid (Turn (fun k => k = g) V w7) := HTZ.out.trans t7 (fun _ _ e => e)
            clear hm7 t7
            go_wp2
            go_roundw
            case rel => exact ⟨j + 1, by go_num, hlt2, HM7.out, HT7.out⟩
            case measure => simp [intOf]; omega
          · obtain rfl : j = L.length := by omega
            have hmz := HMZ.out
            rw [numbered_end HK.out] at hmz
            have HME := Lib.hid hmz
            have hbz := HB.out.turn HTZ.out (by have := HGR.out; omega)
            have cz := hbz.cell 0
            have HKZ : Hid (wr.heap[D]? = some (.deferred (some []))) := ((HTZ.out.block D (Array.getElem?_eq_some_iff.1 HKD.out).1 (by have := HGR.out; have := HDD.out; have := HQ.out; omega)).trans HKD.out)
            clear hmz hbz hrz cB
            go_wp2
            have k1 : (wr.alloc (.cells #[.pointer (some ⟨g, 0, none⟩), .slice (some ⟨R, 0, none⟩) L.length L.length] 141)).heap[D]? = some (.deferred (some [])) := (Below.heap_alloc wr _ D (Array.getElem?_eq_some_iff.1 HKZ.out).1).trans HKZ.out
            have b9 : Box (wr.alloc (.cells #[.pointer (some ⟨g, 0, none⟩), .slice (some ⟨R, 0, none⟩) L.length L.length] 141)) wr.heap.size 141 #[.pointer (some ⟨g, 0, none⟩), .slice (some ⟨R, 0, none⟩) L.length L.length] := Box.new _ _ _
            have t9 : Turn (fun _ => False) wr (wr.alloc (.cells #[.pointer (some ⟨g, 0, none⟩), .slice (some ⟨R, 0, none⟩) L.length L.length] 141)) := (Turn.refl _ wr).alloc _
            have m9 := HME.out.later t9
            have r9 := HRZ.out.later t9
            have HR9 : Hid (∃ cs, Box (wr.alloc (.cells #[.pointer (some ⟨g, 0, none⟩), .slice (some ⟨R, 0, none⟩) L.length L.length] 141)) R 9 cs) := HBR.out.imp fun cs hc => (hc.turn HTZ.out (by have := HGR.out; omega)).turn t9 (fun f => f)
            have hwr : w.heap.size ≤ g := by rw [HG.out]; exact Nat.le_refl _
            have tall : Turn (fun _ => False) w (wr.alloc (.cells #[.pointer (some ⟨g, 0, none⟩), .slice (some ⟨R, 0, none⟩) L.length L.length] 141)) :=
              ((HTW5.out.trans HTV.out (fun k hk e => by have := HGR.out; omega)).trans HTZ.out (fun k hk e => by omega)).trans t9 (fun _ _ f => f)
            generalize wr.alloc (.cells #[.pointer (some ⟨g, 0, none⟩), .slice (some ⟨R, 0, none⟩) L.length L.length] 141) = w9 at *
            have u1 : Turn (fun k => k = D) w9 (w9.putObj D (.deferred none)) := Turn.putObj _ D _ rfl
            have hnc : ∀ i t cs, Box w9 i t cs → ¬ i = D := fun i t cs hb e => by rw [← e, show w9.heap[i]? = _ from hb] at k1; cases k1
            refine ⟨by simp, .inl ⟨_, _, rfl, run_takeDeferred k1, ?_⟩⟩
            refine ⟨.pointer (some ⟨wr.heap.size, 0, none⟩), ?_, ?_⟩
            · simp [results, Tryz.f51, go_sem]
            · have hset := setG_is Op.bytesLess rises_bytes l
              rw [hL] at hset
              have hDg : w.heap.size ≤ D := Nat.le_trans (HT.out.trans HT5.out (fun _ _ f => f)).size HDD.out
              obtain ⟨_, _, hbg, _⟩ := m9.out
              have hfin : DV10 (w9.putObj D (.deferred none)) (.pointer (some ⟨wr.heap.size, 0, none⟩)) L := by
                refine ⟨.inr ⟨wr.heap.size, g, .slice (some ⟨R, 0, none⟩) L.length L.length, rfl, b9.turn u1 (hnc _ _ _ b9), m9.turn u1 (hnc _ _ _ hbg) (fun i cs hb => hnc _ _ _ hb), r9.turn u1 ?_⟩, hset.1, by omega, fun _ => ⟨wr.heap.size, _, _, rfl, b9.turn u1 (hnc _ _ _ b9), fun k hk => by
                  simp only [Value.ownBlock, Option.some.injEq] at hk
                  subst hk
                  exact HR9.out.imp fun cs hc => hc.turn u1 (hnc _ _ _ hc)⟩⟩
                intro b hb e
                simp only [Value.ownBlock, Option.some.injEq] at hb
                have h0 := HDD.out; have h1 := HQ.out
                omega
              rw [← hL] at hfin
              exact ⟨_, rfl, hfin, (fun e => by cases e), tall.trans u1 (fun k hk e => by omega)⟩

end Go.Proofs.YticglepkbihldaaGreat

/-
  Stage 12: a dictionary, and texts, kept where a writer turns; a writer's puts; putTexts.
-/
namespace Go.Proofs.YticglepkbihldaaGreat
open Go.RowKit

set_option maxRecDepth 100000

/-- Blocks that are none of a dictionary's. -/
def Apart12 (w : World) (S : Nat → Prop) : Prop := ∀ k t cs, S k → Box w k t cs → t ≠ 141 ∧ t ≠ 167 ∧ t ≠ 189 ∧ t ≠ 9
theorem DV10.kept {w w' : World} {v : Value} {L : List (List UInt8)} {S : Nat → Prop} (h : DV10 w v L) (ht : Turn S w w') (hS : Apart12 w S) : DV10 w' v L := by
  refine ⟨h.out.imp id ?_, h.up, h.len, fun hn => ?_⟩
  · rintro ⟨d, g, sl, rfl, hb, hm, hr⟩
    obtain ⟨x, A, hmb, _, _⟩ := hm.out
    refine ⟨d, g, sl, rfl, hb.turn ht (fun e => (hS _ _ _ e hb).1 rfl), hm.turn ht (fun e => (hS _ _ _ e hmb).2.1 rfl) (fun i cs hi e => (hS _ _ _ e hi).2.2.1 rfl), hr.turn ht (fun k hk e => ?_)⟩
    obtain ⟨b, x, sl2, e1, hb2, hk2⟩ := h.typ (fun e => by cases e)
    cases e1
    have e2 := hb.symm.trans hb2
    injection e2 with e2
    injection e2 with e2 _
    injection e2 with e2
    injection e2 with _ e2
    injection e2 with e2 _
    subst e2
    obtain ⟨cs, hc⟩ := hk2 k hk
    exact (hS _ _ _ e hc).2.2.2 rfl
  · obtain ⟨b, x, sl, e, hb, hk⟩ := h.typ hn
    exact ⟨b, x, sl, e, hb.turn ht (fun e => (hS _ _ _ e hb).1 rfl), fun k hk' => (hk k hk').imp fun cs hc => hc.turn ht (fun e => (hS _ _ _ e hc).2.2.2 rfl)⟩
theorem box_type12 {w : World} {k : Nat} {t t' : TypeId} {cs cs' : Array Value} (h : Box w k t cs) (h' : Box w k t' cs') : t = t' ∧ cs = cs' := by
  have e := (show w.heap[k]? = _ from h).symm.trans h'
  injection e with e
  injection e with e1 e2
  exact ⟨e2, e1⟩
/-- A writer's blocks, new since a world. -/
def WS12 (w0 w : World) (k : Nat) : Prop := w0.heap.size ≤ k ∧ ((∃ cs, Box w k 62 cs) ∨ ∃ cs, Box w k 5 cs)
theorem WS12.type {w0 w : World} {k : Nat} {t : TypeId} {cs : Array Value} (h : WS12 w0 w k) (hb : Box w k t cs) : t = 62 ∨ t = 5 := by
  rcases h.2 with ⟨c, hc⟩ | ⟨c, hc⟩
  · exact .inl (box_type12 hb hc).1
  · exact .inr (box_type12 hb hc).1
theorem WS12.apart (w0 w : World) : Apart12 w (WS12 w0 w) := fun k t cs h hb => by
  rcases h.type hb with rfl | rfl
  · exact ⟨by decide, by decide, by decide, by decide⟩
  · exact ⟨by decide, by decide, by decide, by decide⟩
/-- Nothing but a writer's blocks has turned. -/
def WT12 (w0 w w' : World) : Prop := Turn (WS12 w0 w) w w'
theorem WT12.refl (w0 w : World) : WT12 w0 w w := Turn.refl _ _
theorem WT12.trans {w0 a b c : World} (h : WT12 w0 a b) (g : WT12 w0 b c) : WT12 w0 a c := Turn.trans h g fun k hk e => by
  by_cases hs : WS12 w0 a k
  · exact hs
  · have hb := Turn.block h k hk hs
    refine ⟨e.1, e.2.imp ?_ ?_⟩
    · rintro ⟨cs, hc⟩
      exact ⟨cs, hb.symm.trans hc⟩
    · rintro ⟨cs, hc⟩
      exact ⟨cs, hb.symm.trans hc⟩
theorem WT12.of {w0 a b : World} (h : Turn (fun _ => False) a b) : WT12 w0 a b := h.mono fun _ _ f => f.elim
theorem WT12.box {w0 a b : World} {g : Nat} {t : TypeId} {cs : Array Value} (h : WT12 w0 a b) (hb : Box a g t cs) (h1 : t ≠ 62) (h2 : t ≠ 5) : Box b g t cs :=
  hb.turn h fun e => (e.type hb).elim h1 h2
theorem WT12.texts {w0 a b : World} {v : Value} {T : List (List UInt8)} (h : WT12 w0 a b) (hv : TxR12 a v T) : TxR12 b v T :=
  hv.kept h fun k cs e hb => by rcases e.type hb with e | e <;> exact absurd e (by decide)
theorem DV10.wt {w0 a b : World} {v : Value} {T : List (List UInt8)} (hv : DV10 a v T) (h : WT12 w0 a b) : DV10 b v T := hv.kept h (WS12.apart _ _)
theorem Wt.lt {w wr : World} {p : Nat} {l : List UInt8} (h : Wt w p wr l) : p < wr.heap.size := by
  obtain ⟨_, u, h1, _⟩ := h
  exact h1.1.lt
section
variable {w wr w' : World} {p : Nat} {l l' : List UInt8}
theorem WT12.put {u u' : Value} (h0 : w.heap.size ≤ p) (h1 : Wr wr p u l) (h3 : ∀ k, u.ownBlock = some k → w.heap.size ≤ k) (hp : Put wr p u w' u' l') : WT12 w wr w' := by
  refine hp.2.1.mono fun k hk e => ?_
  rcases e with e | e
  · subst e
    exact ⟨h0, .inl ⟨_, h1.1⟩⟩
  · refine ⟨h3 k e, .inr ?_⟩
    rcases h1.2.form with ⟨e1, _⟩ | ⟨g, cap, cur, e1, hb, _⟩
    · rw [e1] at e; cases e
    · rw [e1] at e
      simp only [Value.ownBlock, Option.some.injEq] at e
      subst e
      exact ⟨_, hb⟩
theorem wx_num (h : Wt w p wr l) (n : Nat) (hn : Hid (n < 18446744073709551616)) (hl : l.length ≤ 1000000) :
    Calls Tryz.prog 28 #[.pointer (some ⟨p, 0, none⟩), .int .u64 n] wr fun e w' => e = .returned (.pointer (some ⟨p, 0, none⟩)) ∧ Wt w p w' (l ++ enc n) ∧ WT12 w wr w' := by
  obtain ⟨h0, u, h1, h3, h4⟩ := h
  exact (num_put p u l n wr h1 hn hl).mono fun e w' ⟨he, v', hp⟩ => ⟨he, Wt.put h0 h3 h4 hp, WT12.put h0 h1 h3 hp⟩
theorem wx_int (h : Wt w p wr l) (n : Int) (g1 : Hid (-9223372036854775808 ≤ n)) (g2 : Hid (n ≤ 9223372036854775807)) (hl : l.length ≤ 1000000) :
    Calls Tryz.prog 53 #[.pointer (some ⟨p, 0, none⟩), .int .i64 n] wr fun e w' => e = .returned (.pointer (some ⟨p, 0, none⟩)) ∧ Wt w p w' (l ++ enc (zig n)) ∧ WT12 w wr w' := by
  obtain ⟨h0, u, h1, h3, h4⟩ := h
  exact (int_put p u l n wr h1 g1 g2 hl).mono fun e w' ⟨he, v', hp⟩ => ⟨he, Wt.put h0 h3 h4 hp, WT12.put h0 h1 h3 hp⟩
theorem wx_text (h : Wt w p wr l) (t : List UInt8) (ht : t.length ≤ 900000) (hl : l.length ≤ 900000) :
    Calls Tryz.prog 50 #[.pointer (some ⟨p, 0, none⟩), .string ⟨t.toArray⟩] wr fun e w' => e = .returned (.pointer (some ⟨p, 0, none⟩)) ∧ Wt w p w' (l ++ tB t) ∧ WT12 w wr w' := by
  obtain ⟨h0, u, h1, h3, h4⟩ := h
  exact (text_put p u l ⟨t.toArray⟩ wr h1 (by show t.toArray.size ≤ _; simpa using ht) hl).mono fun e w' ⟨he, v', hp⟩ => ⟨he, Wt.put h0 h3 h4 hp, WT12.put h0 h1 h3 hp⟩
end

theorem flat_take12 {T : List (List UInt8)} {i : Nat} {x : List UInt8} (h : T[i]? = some x) : (T.take (i + 1)).flatMap tB = (T.take i).flatMap tB ++ tB x := by
  obtain ⟨h0, e⟩ := List.getElem?_eq_some_iff.1 h
  rw [List.take_succ_eq_append_getElem h0, e, List.flatMap_append, List.flatMap_singleton]
theorem flat_le12 (T : List (List UInt8)) (i : Nat) : ((T.take i).flatMap tB).length ≤ (T.flatMap tB).length := by
  conv => rhs; rw [← List.take_append_drop i T]
  rw [List.flatMap_append, List.length_append]
  omega
/-- Behind putTexts. -/
def PutTxt12 (w0 wr : World) (p : Nat) (l : List UInt8) (T : List (List UInt8)) (e : Ending) (w' : World) : Prop := ∃ d, e = .returned (.pointer d) ∧ DV10 w' (.pointer d) (ofT T) ∧ Wt w0 p w' (l ++ dimB T) ∧ WT12 w0 wr w'
set_option maxHeartbeats 4000000 in
theorem puttexts_any12 (w0 : World) (p : Nat) (l : List UInt8) (v : Value) (T : List (List UInt8)) (w : World) (h : Wt w0 p w l) (hv : TxR12 w v T) (hT : T.length ≤ 20000) (hl : (l ++ dimB T).length ≤ 900000) :
    Calls Tryz.prog 29 #[.pointer (some ⟨p, 0, none⟩), v] w fun e w' => PutTxt12 w0 w p l T e w' := by
  have HV := Lib.hid hv
  have HLB : Hid ((l ++ enc T.length).length ≤ 900000 ∧ ∀ i, (l ++ enc T.length ++ (T.take i).flatMap tB).length ≤ 900000) := by
    have h1 := hl
    unfold dimB at h1
    simp only [List.length_append] at h1
    refine ⟨by simp only [List.length_append]; omega, fun i => ?_⟩
    have := flat_le12 T i
    simp only [List.length_append]
    omega
  have HTL : Hid (∀ (i : Nat) (x : List UInt8), T[i]? = some x → x.length ≤ 900000) := fun i x hx => by
    have h1 := HLB.out.2 (i + 1)
    rw [flat_take12 hx] at h1
    unfold tB at h1
    simp only [List.length_append] at h1
    omega
  have HDB : Hid (l ++ dimB T = l ++ enc T.length ++ (T.take T.length).flatMap tB) := by
    show _ = _
    rw [List.take_length, List.append_assoc]
    rfl
  have hll : l.length ≤ 1000000 := by rw [List.length_append] at hl; omega
  have hwr : IntKind.u64.wrap (T.length : Int) = (T.length : Int) := by rw [IntKind.wrap_u64]; omega
  have HNT : Hid (T.length < 18446744073709551616) := by show _ < _; omega
  have HW := Lib.hid (wx_num h T.length HNT hll)
  obtain ⟨A, c, rfl⟩ := hv.rd.shape
  clear h hv hl
  go_enter Tryz.func29, Tryz.ntmps29
  go_wp2_with fail
  refine HW.out.mono ?_
  rintro e w1 ⟨rfl, h1, t1⟩
  have H1 := Lib.hid h1; have HT1 := Lib.hid t1
  clear h1 t1 HW hwr
  go_wp2_with fail
  go_loopw [14] (fun x14 wr => ∃ i : Nat, x14 = .int .i64 (i : Int) ∧ i ≤ T.length ∧ Wt w0 p wr (l ++ enc T.length ++ (T.take i).flatMap tB) ∧ WT12 w0 w wr) (fun x14 _ => T.length - (intOf x14).toNat)
  case atStart => exact ⟨0, rfl, Nat.zero_le _, by rw [List.take_zero, List.flatMap_nil, List.append_nil]; exact H1.out, HT1.out⟩
  case round =>
    clear H1 HT1
    obtain ⟨i, rfl, hi, hw, ht⟩ := hrel
    have HWR := Lib.hid hw; have HTR := Lib.hid ht
    have HVR := Lib.hid (ht.texts HV.out)
    clear hw ht
    by_cases hlt : i < T.length
    · obtain ⟨x, hx⟩ : ∃ x, T[i]? = some x := ⟨_, List.getElem?_eq_getElem hlt⟩
      obtain ⟨ad, rfl, hc⟩ := str_at10 HVR.out.rd hx
      have e0 := hc _ (Turn.refl _ _)
      unfold sv10 at e0
      have hil : (i : Int) < T.length := by omega
      have HF := Lib.hid (flat_take12 hx)
      have HX := Lib.hid (wx_text HWR.out x (HTL.out i x hx) (HLB.out.2 i))
      clear hc hx
      go_wp2_with fail
      refine HX.out.mono ?_
      rintro e w2 ⟨rfl, h2, t2⟩
      rw [List.append_assoc, ← HF.out] at h2
      have H2 := Lib.hid h2; have HT2 : Hid (WT12 w0 w w2) := HTR.out.trans t2
      clear h2 t2 HX
      go_wp2
      go_roundw
      case rel => exact ⟨i + 1, by go_num, hlt, H2.out, HT2.out⟩
      case measure => simp [intOf]; omega
    · obtain rfl : i = T.length := by omega
      have HX := Lib.hid (of_post_any10 _ T wr HVR.out.rd hT)
      go_wp2_with fail
      refine HX.out.mono ?_
      rintro e w2 ⟨d, rfl, hd, -, t2⟩
      obtain ⟨D, rfl⟩ := hd.ptr
      have HD := Lib.hid hd
      have HW2 := Lib.hid (HWR.out.later t2)
      have HT2 : Hid (WT12 w0 w w2) := HTR.out.trans (WT12.of t2)
      clear hd t2 HX
      go_wp2
      go_ret
      exact ⟨D, rfl, HD.out, by rw [HDB.out]; exact HW2.out, HT2.out⟩

end Go.Proofs.YticglepkbihldaaGreat

/-
  A reader of pack (the program's) by its state: the bytes that are left, the fault. For every stage whose code reads bytes so.
-/
namespace Go.Proofs.YticglepkbihldaaGreat
open Go.RowKit

theorem rdF_zero : ∀ (k i acc : Nat) (l : List UInt8), (rdF k i acc l).2.1 ≠ 0 → (rdF k i acc l).1 = 0
  | 0, _, _, _, _ => rfl
  | _ + 1, _, _, [], _ => rfl
  | k + 1, i, acc, b :: l, h => by
    unfold rdF at h ⊢
    split
    · rename_i hb
      rw [if_pos hb] at h
      exact rdF_zero k _ _ l h
    · rename_i hb
      rw [if_neg hb] at h
      split
      · rfl
      · rename_i hc
        rw [if_neg hc] at h
        exact absurd rfl h
theorem rdNum_zero {l : List UInt8} (h : (rdNum l).2.1 ≠ 0) : (rdNum l).1 = 0 := rdF_zero 10 0 0 l h
theorem rdCount_zero {most : Nat} {l : List UInt8} (h : (rdCount most l).2.1 ≠ 0) : (rdCount most l).1 = 0 := by
  unfold rdCount at h ⊢
  split
  · rfl
  · rename_i h1
    split
    · rfl
    · rename_i h2
      rw [if_neg h1, if_neg h2] at h
      exact absurd rfl h
theorem rdText_zero {most : Nat} {l : List UInt8} (h : (rdText most l).2.1 ≠ 0) : (rdText most l).1 = [] := by
  unfold rdText at h ⊢
  generalize rdCount most l = r at *
  obtain ⟨n, f, m⟩ := r
  simp only at h ⊢
  split
  · rfl
  · rename_i h1
    split
    · rfl
    · rename_i h2
      rw [if_neg h1, if_neg h2] at h
      exact absurd rfl h

/-- What is read in a state, and the state behind it. -/
def gNum (s : List UInt8 × Nat) : Nat := if s.2 = 0 then (rdNum s.1).1 else 0
def gNum' (s : List UInt8 × Nat) : List UInt8 × Nat := if s.2 = 0 then (s.1.drop (rdNum s.1).2.2, (rdNum s.1).2.1) else s
def gInt (s : List UInt8 × Nat) : Int := if s.2 = 0 then zag (rdNum s.1).1 else 0
def gText (most : Nat) (s : List UInt8 × Nat) : List UInt8 := if s.2 = 0 then (rdText most s.1).1 else []
def gText' (most : Nat) (s : List UInt8 × Nat) : List UInt8 × Nat := if s.2 = 0 then (s.1.drop (rdText most s.1).2.2, (rdText most s.1).2.1) else s
def gCount (most : Nat) (s : List UInt8 × Nat) : Nat := if s.2 = 0 then (rdCount most s.1).1 else 0
def gCount' (most : Nat) (s : List UInt8 × Nat) : List UInt8 × Nat := if s.2 = 0 then (s.1.drop (rdCount most s.1).2.2, (rdCount most s.1).2.1) else s

/-- The program's reader in a state, new since a world (behind a fault what is left is of no account). -/
def PR (w : World) (p : Nat) (wr : World) (s : List UInt8 × Nat) : Prop :=
  w.heap.size ≤ p ∧ (∃ v l k, Rdr wr p v l k s.2 ∧ (s.2 = 0 → l.drop k = s.1) ∧ ∀ g, v.ownBlock = some g → w.heap.size ≤ g) ∧ Turn (fun _ => False) w wr
section
variable {w wr : World} {p : Nat} {s : List UInt8 × Nat}
theorem PR.turn (h : PR w p wr s) : Turn (fun _ => False) w wr := h.2.2
theorem PR.later {w' : World} (h : PR w p wr s) (ht : Turn (fun _ => False) wr w') : PR w p w' s := by
  obtain ⟨h0, ⟨v, l, k, h1, h2, h3⟩, h4⟩ := h
  exact ⟨h0, ⟨v, l, k, h1.turn ht (fun f => f) (fun _ _ f => f), h2, h3⟩, h4.trans ht (fun _ _ f => f)⟩
theorem PR.box (h : PR w p wr s) : ∃ cs, Box wr p 151 cs := by
  obtain ⟨_, ⟨v, l, k, h1, _⟩, _⟩ := h
  exact ⟨_, h1.1⟩
/-- A reader is kept where boxes of other types turn. -/
theorem PR.keep {S : Nat → Prop} {w' : World} (h : PR w p wr s) (ht : Turn S wr w') (h1 : ∀ g, S g → w.heap.size ≤ g) (h2 : ∀ g, S g → ∃ t cs, t ≠ 151 ∧ t ≠ 5 ∧ Box wr g t cs) : PR w p w' s := by
  obtain ⟨h0, ⟨v, l, k, g1, g2, g3⟩, h4⟩ := h
  refine ⟨h0, ⟨v, l, k, g1.turn ht (fun e => ?_) (fun g hg e => ?_), g2, g3⟩, h4.trans ht (fun g hg e => by have := h1 g e; omega)⟩
  · obtain ⟨t, cs, n1, _, hb⟩ := h2 p e
    have e2 := g1.1.symm.trans hb
    injection e2 with e2
    injection e2 with _ e3
    exact n1 e3.symm
  · obtain ⟨t, cs, _, n2, hb⟩ := h2 g e
    exact g1.2.1.ne_box hb (fun e => n2 e.symm) hg
theorem PR.step {none x : Value} {f1 d : Nat} {v : Value} {l : List UInt8} {k : Nat} {e : Ending} {w' : World} (h0 : w.heap.size ≤ p) (h2 : s.2 = 0 → l.drop k = s.1) (h3 : ∀ g, v.ownBlock = some g → w.heap.size ≤ g) (h4 : Turn (fun _ => False) w wr)
    (hg : Got p v l k s.2 wr none x (k + d) f1 e w') (hx : f1 ≠ 0 → x = none) :
    e = .returned (if s.2 = 0 then x else none) ∧ PR w p w' (if s.2 = 0 then (s.1.drop d, f1) else s) ∧ Turn (fun g => g = p) wr w' := by
  by_cases hs : s.2 = 0
  · rw [if_pos hs, if_pos hs]
    have ht := hg.1 hs
    by_cases hf : f1 = 0
    · obtain ⟨g1, g2⟩ := ht.1 hf
      refine ⟨g1, ⟨h0, ⟨v, l, k + d, ?_, fun _ => ?_, h3⟩, h4.trans g2.2 (fun g hg e => by omega)⟩, g2.2⟩
      · rw [hf]
        exact g2.1
      · show l.drop (k + d) = s.1.drop d
        rw [← h2 hs, List.drop_drop]
    · obtain ⟨g1, g2⟩ := ht.2 hf
      refine ⟨by rw [g1, hx hf], ⟨h0, ⟨v, l, k, g2.1, fun e => absurd e hf, h3⟩, h4.trans g2.2 (fun g hg e => by omega)⟩, g2.2⟩
  · rw [if_neg hs, if_neg hs]
    obtain ⟨g1, g2⟩ := hg.2 hs
    exact ⟨g1, ⟨h0, ⟨v, l, k, g2.1, fun e => absurd e hs, h3⟩, h4.trans g2.2 (fun g hg e => by omega)⟩, g2.2⟩
theorem pr_num (h : PR w p wr s) : Calls Tryz.prog 66 #[.pointer (some ⟨p, 0, none⟩)] wr fun e w' => e = .returned (.int .u64 (gNum s : Int)) ∧ PR w p w' (gNum' s) ∧ Turn (fun g => g = p) wr w' := by
  obtain ⟨h0, ⟨v, l, k, h1, h2, h3⟩, h4⟩ := h
  refine (rnum p v l k s.2 wr h1).mono fun e w' hg => ?_
  by_cases hs : s.2 = 0
  · rw [h2 hs] at hg
    obtain ⟨g1, g2, g3⟩ := PR.step h0 h2 h3 h4 hg (fun hf => by rw [rdNum_zero hf]; rfl)
    refine ⟨?_, g2, g3⟩
    rw [g1]
    unfold gNum
    rw [if_pos hs, if_pos hs]
  · obtain ⟨g1, g2⟩ := hg.2 hs
    refine ⟨by rw [g1]; unfold gNum; rw [if_neg hs]; rfl, ?_, g2.2⟩
    unfold gNum'
    rw [if_neg hs]
    exact ⟨h0, ⟨v, l, k, g2.1, h2, h3⟩, h4.trans g2.2 (fun g hg e => by omega)⟩
theorem pr_int (h : PR w p wr s) : Calls Tryz.prog 130 #[.pointer (some ⟨p, 0, none⟩)] wr fun e w' => e = .returned (.int .i64 (gInt s)) ∧ PR w p w' (gNum' s) ∧ Turn (fun g => g = p) wr w' := by
  obtain ⟨h0, ⟨v, l, k, h1, h2, h3⟩, h4⟩ := h
  refine (rint p v l k s.2 wr h1).mono fun e w' hg => ?_
  unfold RInt at hg
  by_cases hs : s.2 = 0
  · rw [h2 hs] at hg
    obtain ⟨g1, g2, g3⟩ := PR.step h0 h2 h3 h4 hg (fun hf => by rw [rdNum_zero hf, zag_zero])
    refine ⟨?_, g2, g3⟩
    rw [g1]
    unfold gInt
    rw [if_pos hs, if_pos hs]
  · obtain ⟨g1, g2⟩ := hg.2 hs
    refine ⟨by rw [g1]; unfold gInt; rw [if_neg hs], ?_, g2.2⟩
    unfold gNum'
    rw [if_neg hs]
    exact ⟨h0, ⟨v, l, k, g2.1, h2, h3⟩, h4.trans g2.2 (fun g hg e => by omega)⟩
theorem pr_text (most : Nat) (hm : most ≤ 1000000) (h : PR w p wr s) : Calls Tryz.prog 104 #[.pointer (some ⟨p, 0, none⟩), .int .i64 most] wr fun e w' => e = .returned (.string ⟨(gText most s).toArray⟩) ∧ PR w p w' (gText' most s) ∧ Turn (fun g => g = p) wr w' := by
  obtain ⟨h0, ⟨v, l, k, h1, h2, h3⟩, h4⟩ := h
  refine (rtext p v l k s.2 wr most hm h1).mono fun e w' hg => ?_
  by_cases hs : s.2 = 0
  · rw [h2 hs] at hg
    obtain ⟨g1, g2, g3⟩ := PR.step h0 h2 h3 h4 hg (fun hf => by rw [rdText_zero hf])
    refine ⟨?_, g2, g3⟩
    rw [g1]
    unfold gText
    rw [if_pos hs, if_pos hs]
  · obtain ⟨g1, g2⟩ := hg.2 hs
    refine ⟨by rw [g1]; unfold gText; rw [if_neg hs], ?_, g2.2⟩
    unfold gText'
    rw [if_neg hs]
    exact ⟨h0, ⟨v, l, k, g2.1, h2, h3⟩, h4.trans g2.2 (fun g hg e => by omega)⟩
theorem pr_count (most : Nat) (hm : most ≤ 1000000000) (h : PR w p wr s) : Calls Tryz.prog 100 #[.pointer (some ⟨p, 0, none⟩), .int .i64 most] wr fun e w' => e = .returned (.int .i64 (gCount most s : Int)) ∧ PR w p w' (gCount' most s) ∧ Turn (fun g => g = p) wr w' := by
  obtain ⟨h0, ⟨v, l, k, h1, h2, h3⟩, h4⟩ := h
  refine (rcount p v l k s.2 wr most hm h1).mono fun e w' hg => ?_
  by_cases hs : s.2 = 0
  · rw [h2 hs] at hg
    obtain ⟨g1, g2, g3⟩ := PR.step h0 h2 h3 h4 hg (fun hf => by rw [rdCount_zero hf]; rfl)
    refine ⟨?_, g2, g3⟩
    rw [g1]
    unfold gCount
    rw [if_pos hs, if_pos hs]
  · obtain ⟨g1, g2⟩ := hg.2 hs
    refine ⟨by rw [g1]; unfold gCount; rw [if_neg hs]; rfl, ?_, g2.2⟩
    unfold gCount'
    rw [if_neg hs]
    exact ⟨h0, ⟨v, l, k, g2.1, h2, h3⟩, h4.trans g2.2 (fun g hg e => by omega)⟩
theorem pr_fault (h : PR w p wr s) : Calls Tryz.prog 69 #[.pointer (some ⟨p, 0, none⟩)] wr fun e w' => e = .returned (.int .i64 (s.2 : Int)) ∧ wr = w' := by
  obtain ⟨h0, ⟨v, l, k, h1, h2, h3⟩, h4⟩ := h
  exact fault_any p v l k s.2 wr h1
/-- Where nothing is wrong: how many bytes are left. -/
theorem pr_left (h : PR w p wr s) (h0 : s.2 = 0) : Calls Tryz.prog 70 #[.pointer (some ⟨p, 0, none⟩)] wr fun e w' => e = .returned (.int .i64 (s.1.length : Int)) ∧ ∃ n, w' = wr.drewN n := by
  obtain ⟨_, ⟨v, l, k, h1, h2, h3⟩, h4⟩ := h
  rw [← h2 h0, List.length_drop]
  exact left_any p v l k s.2 wr h1
theorem pr_new (v : Value) (l : List UInt8) (h : Turn (fun _ => False) w wr) (hv : Rd wr v l) (hl : l.length ≤ 1000000) : Calls Tryz.prog 65 #[v] wr fun e w' => ∃ p, e = .returned (.pointer (some ⟨p, 0, none⟩)) ∧ PR w p w' (l, 0) ∧ wr.heap.size ≤ p :=
  (new_reader v l wr hv hl).mono fun _ _ ⟨p, u, he, h1, h2, h3, h4⟩ => ⟨p, he, ⟨Nat.le_trans h.size h3, ⟨u, l, 0, h1, fun _ => rfl, fun g hg => Nat.le_trans h.size (h4 g hg)⟩, h.trans h2 (fun _ _ f => f)⟩, h3⟩
end

end Go.Proofs.YticglepkbihldaaGreat

/-
  Stage 12, plain: a payload read; there and back.
-/
namespace Go.Proofs.YticglepkbihldaaGreat
open Go.RowKit

theorem zig_zag12 (n : Nat) : zig (zag n) = n := by
  unfold zig zag
  by_cases h : n % 2 = 0
  · rw [if_pos h, if_pos (by omega)]
    omega
  · rw [if_neg h, if_neg (by omega)]
    omega
theorem mid_of12 (b : UInt8) (q : Nat) (hb : 128 ≤ b.toNat) : mid (b.toNat - 128 + q * 128) = b := by
  have hlt : b.toNat < 256 := UInt8.toNat_lt b
  apply UInt8.toNat_inj.1
  unfold mid
  rw [UInt8.toNat_ofNat']
  omega
theorem low_of12 (b : UInt8) : low b.toNat = b := by
  apply UInt8.toNat_inj.1
  exact low_toNat _ (UInt8.toNat_lt b)
/-- What is read as a number is just what would be put, and what is left. -/
theorem rdF_exact12 : ∀ (g i acc : Nat) (l : List UInt8), (rdF g i acc l).2.1 = 0 →
    ∃ q, (rdF g i acc l).1 = acc + q * 128 ^ i ∧ i ≤ (rdF g i acc l).2.2 ∧ l = encF (g - 1) q ++ l.drop ((rdF g i acc l).2.2 - i) ∧ (0 < i → 0 < q)
  | 0, _, _, _, h => by cases h
  | _ + 1, _, _, [], h => by cases h
  | g + 1, i, acc, b :: l, h => by
    have e : rdF (g + 1) i acc (b :: l) = if 128 ≤ b.toNat then rdF g (i + 1) (acc + (b.toNat - 128) * 128 ^ i) l
      else if (0 < i ∧ b.toNat = 0) ∨ (i = 9 ∧ 1 < b.toNat) then (0, 4, i + 1) else (acc + b.toNat * 128 ^ i, 0, i + 1) := rfl
    rw [e] at h ⊢
    by_cases hb : 128 ≤ b.toNat
    · rw [if_pos hb] at h ⊢
      obtain ⟨q, h1, h2, h3, h4⟩ := rdF_exact12 g (i + 1) _ l h
      have hq := h4 (by omega)
      have hlt : b.toNat < 256 := UInt8.toNat_lt b
      cases g with
      | zero => cases h
      | succ g =>
        refine ⟨b.toNat - 128 + q * 128, ?_, by omega, ?_, fun _ => by omega⟩
        · rw [h1, Nat.pow_succ, Nat.add_mul, Nat.mul_assoc q 128, Nat.mul_comm 128 (128 ^ i)]
          omega
        · have e2 : encF (g + 1) (b.toNat - 128 + q * 128) = b :: encF g q := by
            show (if _ < 128 then _ else _) = _
            rw [if_neg (by omega), mid_of12 b q hb, show (b.toNat - 128 + q * 128) / 128 = q by omega]
          show b :: l = encF (g + 1) _ ++ _
          rw [e2]
          generalize (rdF (g + 1) (i + 1) (acc + (b.toNat - 128) * 128 ^ i) l).2.2 = n at *
          rw [show n - i = (n - (i + 1)) + 1 by omega, List.drop_succ_cons, List.cons_append]
          congr 1
    · rw [if_neg hb] at h ⊢
      by_cases hz : (0 < i ∧ b.toNat = 0) ∨ (i = 9 ∧ 1 < b.toNat)
      · rw [if_pos hz] at h
        cases h
      · rw [if_neg hz]
        refine ⟨b.toNat, rfl, by show i ≤ i + 1; omega, ?_, fun hi => by omega⟩
        have e2 : encF g b.toNat = [b] := by
          cases g with
          | zero => show [low b.toNat] = [b]; rw [low_of12]
          | succ g =>
            show (if _ < 128 then _ else _) = _
            rw [if_pos (by omega), low_of12]
        show b :: l = encF g b.toNat ++ _
        rw [e2, show i + 1 - i = 1 by omega]
        rfl
theorem rdNum_exact12 {l : List UInt8} (h : (rdNum l).2.1 = 0) : l = enc (rdNum l).1 ++ l.drop (rdNum l).2.2 := by
  obtain ⟨q, h1, _, h2, _⟩ := rdF_exact12 10 0 0 l h
  have e : (rdNum l).1 = q := by
    show (rdF 10 0 0 l).1 = q
    rw [h1]
    simp
  rw [e]
  exact h2
theorem dim_put12 {k : K9} {i j : Nat} (hi : i < 4) (hj : j < 4) (t : List UInt8) : (k.put i t).dim j = if i = j then t else k.dim j := by
  match i, hi, j, hj with
  | 0, _, 0, _ => rfl
  | 0, _, 1, _ => rfl
  | 0, _, 2, _ => rfl
  | 0, _, 3, _ => rfl
  | 1, _, 0, _ => rfl
  | 1, _, 1, _ => rfl
  | 1, _, 2, _ => rfl
  | 1, _, 3, _ => rfl
  | 2, _, 0, _ => rfl
  | 2, _, 1, _ => rfl
  | 2, _, 2, _ => rfl
  | 2, _, 3, _ => rfl
  | 3, _, 0, _ => rfl
  | 3, _, 1, _ => rfl
  | 3, _, 2, _ => rfl
  | 3, _, 3, _ => rfl
theorem put_h12 {k : K9} {i : Nat} (t : List UInt8) : (k.put i t).h = k.h := by
  unfold K9.put
  split <;> rfl
/-- A key's first texts put into another. -/
def putN12 (k0 k : K9) : Nat → K9
  | 0 => k0
  | i + 1 => (putN12 k0 k i).put i (k.dim i)
theorem putN12_all {k : K9} {n : Nat} (hn1 : 1 ≤ n) (hn : n ≤ 4) (hk : ∀ i, i < 4 → n ≤ i → k.dim i = []) : putN12 ⟨k.h, [], [], [], []⟩ k n = k := by
  obtain ⟨h, a, b, c, d⟩ := k
  match n, hn1, hn with
  | 1, _, _ =>
    have e1 := hk 1 (by omega) (by omega)
    have e2 := hk 2 (by omega) (by omega)
    have e3 := hk 3 (by omega) (by omega)
    simp only [K9.dim] at e1 e2 e3
    subst e1 e2 e3
    rfl
  | 2, _, _ =>
    have e2 := hk 2 (by omega) (by omega)
    have e3 := hk 3 (by omega) (by omega)
    simp only [K9.dim] at e2 e3
    subst e2 e3
    rfl
  | 3, _, _ =>
    have e3 := hk 3 (by omega) (by omega)
    simp only [K9.dim] at e3
    subst e3
    rfl
  | 4, _, _ => rfl
abbrev St12 := List UInt8 × Nat
theorem gnum_there {s : St12} (h : (gNum' s).2 = 0) : s.2 = 0 ∧ s.1 = enc (gNum s) ++ (gNum' s).1 := by
  unfold gNum gNum' at *
  by_cases hs : s.2 = 0
  · rw [if_pos hs] at h
    rw [if_pos hs, if_pos hs]
    exact ⟨hs, rdNum_exact12 h⟩
  · rw [if_neg hs] at h
    exact absurd h hs
theorem gint_there {s : St12} (h : (gNum' s).2 = 0) : s.2 = 0 ∧ s.1 = enc (zig (gInt s)) ++ (gNum' s).1 := by
  obtain ⟨h1, h2⟩ := gnum_there h
  refine ⟨h1, ?_⟩
  have e : zig (gInt s) = gNum s := by
    unfold gInt gNum
    rw [if_pos h1, if_pos h1, zig_zag12]
  rw [e]
  exact h2
theorem gtext_there {most : Nat} {s : St12} (h : (gText' most s).2 = 0) : s.2 = 0 ∧ s.1 = tB (gText most s) ++ (gText' most s).1 ∧ (gText most s).length ≤ most := by
  unfold gText gText' at *
  by_cases hs : s.2 = 0
  · rw [if_pos hs] at h
    rw [if_pos hs, if_pos hs]
    refine ⟨hs, ?_⟩
    unfold rdText rdCount at h ⊢
    by_cases h1 : (rdNum s.1).2.1 = 0
    · by_cases h2 : most < (rdNum s.1).1
      · simp [h1, h2] at h
      · by_cases h3 : (s.1.drop (rdNum s.1).2.2).length < (rdNum s.1).1
        · simp only [h1, h2, ne_eq, not_true_eq_false, if_false, h3, if_true] at h
          cases h
        · simp only [h1, h2, ne_eq, not_true_eq_false, if_false, h3]
          have hl : ((s.1.drop (rdNum s.1).2.2).take (rdNum s.1).1).length = (rdNum s.1).1 := by rw [List.length_take]; omega
          refine ⟨?_, by omega⟩
          unfold tB
          rw [hl]
          have e := rdNum_exact12 h1
          conv => lhs; rw [e]
          rw [List.append_assoc, ← List.drop_drop, List.take_append_drop]
    · simp only [ne_eq, h1, not_false_eq_true, if_true] at h
  · rw [if_neg hs] at h
    exact absurd h hs
theorem gcount_there {most : Nat} {s : St12} (h : (gCount' most s).2 = 0) : s.2 = 0 ∧ s.1 = enc (gCount most s) ++ (gCount' most s).1 := by
  unfold gCount gCount' at *
  by_cases hs : s.2 = 0
  · rw [if_pos hs] at h
    rw [if_pos hs, if_pos hs]
    refine ⟨hs, ?_⟩
    unfold rdCount at h ⊢
    by_cases h1 : (rdNum s.1).2.1 = 0
    · by_cases h2 : most < (rdNum s.1).1
      · simp [h1, h2] at h
      · simp only [h1, h2, ne_eq, not_true_eq_false, if_false]
        exact rdNum_exact12 h1
    · simp only [ne_eq, h1, not_false_eq_true, if_true] at h
  · rw [if_neg hs] at h
    exact absurd h hs
theorem gcount_le (most : Nat) (s : St12) : gCount most s ≤ most := by
  unfold gCount
  split
  · unfold rdCount
    split
    · exact Nat.zero_le _
    · split
      · exact Nat.zero_le _
      · show (rdNum s.1).1 ≤ most
        omega
  · exact Nat.zero_le _
theorem gnum_lt (s : St12) : gNum s < 18446744073709551616 := by
  unfold gNum
  split
  · exact (rdNum_lt s.1)
  · omega
theorem zag_fit12 {n : Nat} (h : n < 18446744073709551616) : fit (zag n) = true := by
  rw [fit_iff]
  unfold zag
  split <;> omega
theorem gint_fit (s : St12) : fit (gInt s) = true := by
  unfold gInt
  split
  · exact zag_fit12 (rdNum_lt s.1)
  · decide
/-- What is put is read. -/
theorem gnum_back {n : Nat} (hn : n < 18446744073709551616) (r : List UInt8) : gNum (enc n ++ r, 0) = n ∧ gNum' (enc n ++ r, 0) = (r, 0) := by
  unfold gNum gNum'
  simp only [if_true]
  rw [rdNum_enc n r hn]
  exact ⟨rfl, by simp⟩
theorem gint_back {v : Int} (h : fit v = true) (r : List UInt8) : gInt (enc (zig v) ++ r, 0) = v ∧ gNum' (enc (zig v) ++ r, 0) = (r, 0) := by
  rw [fit_iff] at h
  have hz := zig_lt v h.1 h.2
  refine ⟨?_, (gnum_back hz r).2⟩
  unfold gInt
  simp only [if_true]
  rw [rdNum_enc _ r hz, zag_zig]
theorem gtext_back {most : Nat} (hm : most ≤ 1000000) {t : List UInt8} (ht : t.length ≤ most) (r : List UInt8) : gText most (tB t ++ r, 0) = t ∧ gText' most (tB t ++ r, 0) = (r, 0) := by
  have hn : Hid (t.length < 18446744073709551616) := by show _ < _; omega
  have e : rdNum (tB t ++ r) = (t.length, 0, (enc t.length).length) := by
    unfold tB
    rw [List.append_assoc]
    exact rdNum_enc t.length (t ++ r) hn
  have ed : (tB t ++ r).drop (enc t.length).length = t ++ r := by
    unfold tB
    rw [List.append_assoc, List.drop_left]
  have e2 : rdText most (tB t ++ r) = (t, 0, (enc t.length).length + t.length) := by
    unfold rdText rdCount
    rw [e]
    have h16 : ¬ most < t.length := by omega
    simp only [ne_eq, not_true_eq_false, if_false, h16, ed]
    rw [if_neg (by rw [List.length_append]; omega), List.take_left]
  unfold gText gText'
  simp only [if_true]
  rw [e2]
  refine ⟨rfl, ?_⟩
  show ((tB t ++ r).drop ((enc t.length).length + t.length), 0) = _
  rw [← List.drop_drop, ed, List.drop_left]
theorem gcount_back {most n : Nat} (hm : most ≤ 1000000000) (hn : n ≤ most) (r : List UInt8) : gCount most (enc n ++ r, 0) = n ∧ gCount' most (enc n ++ r, 0) = (r, 0) := by
  have e := rdNum_enc n r (by show _ < _; omega)
  have e2 : rdCount most (enc n ++ r) = (n, 0, (enc n).length) := by
    unfold rdCount
    rw [e]
    have h50 : ¬ most < n := by omega
    simp [h50]
  unfold gCount gCount'
  simp only [if_true]
  rw [e2]
  exact ⟨rfl, by simp⟩

/-- Does a text not rise behind those that have come? -/
def unrise (out : List (List UInt8)) (t : List UInt8) : Bool := match out.getLast? with | none => false | some p => !(Op.bytesLess p t)
/-- So many texts: what is left, the texts (none behind a fault), whether something can't be. -/
def dimR : Nat → St12 → List (List UInt8) → Bool → St12 × List (List UInt8) × Bool
  | 0, s, out, bad => (s, out, bad)
  | i + 1, s, out, bad => if (gText' 16 s).2 ≠ 0 then (gText' 16 s, [], bad) else dimR i (gText' 16 s) (out ++ [gText 16 s]) (bad || unrise out (gText 16 s))
def dimD (s : St12) (bad : Bool) : St12 × List (List UInt8) × Bool := dimR (gCount 65536 s) (gCount' 65536 s) [] bad
def dimsD : Nat → St12 → Bool → St12 × (Nat → List (List UInt8)) × Bool
  | 0, s, bad => (s, fun _ => [], bad)
  | d + 1, s, bad => ((dimD (dimsD d s bad).1 (dimsD d s bad).2.2).1, fun x => if x = d then ofT (dimD (dimsD d s bad).1 (dimsD d s bad).2.2).2.1 else (dimsD d s bad).2.1 x, (dimD (dimsD d s bad).1 (dimsD d s bad).2.2).2.2)
/-- The texts of a row, by their places. -/
def plcR (T : Nat → List (List UInt8)) (k0 : K9) (s : St12) (bad : Bool) : Nat → K9 × St12 × Bool
  | 0 => (k0, s, bad)
  | d + 1 => ((plcR T k0 s bad d).1.put d (((T d)[gCount 65535 (plcR T k0 s bad d).2.1]?).getD []), gCount' 65535 (plcR T k0 s bad d).2.1, (plcR T k0 s bad d).2.2 || ((T d)[gCount 65535 (plcR T k0 s bad d).2.1]?).isNone)
def hourN (h : Nat) (s : St12) : Nat := min (h + min (gNum s) 16777217) 16777217
def cellR (s : St12) : Cl := ⟨IntKind.i64.wrap (gNum s : Int), gInt (gNum' s), gInt (gNum' (gNum' s)), gInt (gNum' (gNum' (gNum' s)))⟩
def st4 (s : St12) : St12 := gNum' (gNum' (gNum' (gNum' s)))
def rowR (T : Nat → List (List UInt8)) (N h : Nat) (s : St12) (bad : Bool) : K9 × St12 × Bool := plcR T ⟨(h : Int), [], [], [], []⟩ s bad N
def rowsR (T : Nat → List (List UInt8)) (N : Nat) : Nat → Nat → St12 → List R11 → Bool → St12 × List R11 × Bool
  | 0, _, s, out, bad => (s, out, bad)
  | i + 1, h, s, out, bad =>
    if (st4 (rowR T N (hourN h s) (gNum' s) bad).2.1).2 ≠ 0 then (st4 (rowR T N (hourN h s) (gNum' s) bad).2.1, [], (rowR T N (hourN h s) (gNum' s) bad).2.2)
    else rowsR T N i (hourN h s) (st4 (rowR T N (hourN h s) (gNum' s) bad).2.1) (out ++ [⟨(rowR T N (hourN h s) (gNum' s) bad).1, cellR (rowR T N (hourN h s) (gNum' s) bad).2.1⟩]) (rowR T N (hourN h s) (gNum' s) bad).2.2
def usedN (l : List R11) (T : Nat → List (List UInt8)) : Nat → Bool
  | 0 => true
  | d + 1 => usedN l T d && decide ((dimT l d).length = (T d).length)
def dims0 (p : List UInt8) (N : Nat) : St12 × (Nat → List (List UInt8)) × Bool := dimsD N (gNum' (p, 0)) (!decide (gNum (p, 0) = N))
def rows0 (p : List UInt8) (N : Nat) : St12 × List R11 × Bool := rowsR (dims0 p N).2.1 N (gCount 1048576 (dims0 p N).1) 0 (gCount' 1048576 (dims0 p N).1) [] (dims0 p N).2.2
/-- What a payload says. -/
def decF (p : List UInt8) (N : Nat) : Int × List R11 :=
  if (rows0 p N).1.2 ≠ 0 then ((rows0 p N).1.2, []) else if (rows0 p N).2.2 = true ∨ 0 < (rows0 p N).1.1.length then (4, []) else if rightR (rows0 p N).2.1 = false then (4, [])
  else if fitL (rows0 p N).2.1 N ≠ 0 ∨ usedN (rows0 p N).2.1 (dims0 p N).2.1 N = false then (4, []) else (0, (rows0 p N).2.1)

theorem unrise_up {out : List (List UInt8)} {t : List UInt8} (h : unrise out t = false) (ho : out.Pairwise fun x y => Op.bytesLess x y = true) : (out ++ [t]).Pairwise fun x y => Op.bytesLess x y = true := by
  rw [List.pairwise_append]
  refine ⟨ho, List.pairwise_singleton _ _, fun x hx y hy => ?_⟩
  rw [List.mem_singleton.1 hy]
  rcases List.eq_nil_or_concat out with rfl | ⟨m, z, rfl⟩
  · cases hx
  · rw [List.concat_eq_append] at *
    have hz : Op.bytesLess z t = true := by
      unfold unrise at h
      rw [List.getLast?_append] at h
      simpa using h
    rcases List.mem_append.1 hx with hx | hx
    · exact rises_bytes.tr _ _ _ ((List.pairwise_append.1 ho).2.2 x hx z (by simp)) hz
    · rw [List.mem_singleton.1 hx]; exact hz
theorem unrise_no {out : List (List UInt8)} {t : List UInt8} (h : (out ++ [t]).Pairwise fun x y => Op.bytesLess x y = true) : unrise out t = false := by
  rcases List.eq_nil_or_concat out with rfl | ⟨m, z, rfl⟩
  · rfl
  · rw [List.concat_eq_append] at *
    unfold unrise
    rw [List.getLast?_append]
    have := (List.pairwise_append.1 h).2.2 z (by simp) t (by simp)
    simp [this]

/-- Texts read: their bytes. -/
theorem dimR_there : ∀ (i : Nat) (s : St12) (out : List (List UInt8)) (bad : Bool), (dimR i s out bad).1.2 = 0 →
    s.2 = 0 ∧ ∃ new, (dimR i s out bad).2.1 = out ++ new ∧ new.length = i ∧ s.1 = new.flatMap tB ++ (dimR i s out bad).1.1 ∧
      ((dimR i s out bad).2.2 = false → bad = false ∧ ((out.Pairwise fun x y => Op.bytesLess x y = true) → (out ++ new).Pairwise fun x y => Op.bytesLess x y = true))
  | 0, s, out, bad, h => ⟨h, [], by simp [dimR], rfl, by simp [dimR], fun hb => ⟨hb, fun ho => by simpa using ho⟩⟩
  | i + 1, s, out, bad, h => by
    have e : dimR (i + 1) s out bad = if (gText' 16 s).2 ≠ 0 then (gText' 16 s, [], bad) else dimR i (gText' 16 s) (out ++ [gText 16 s]) (bad || unrise out (gText 16 s)) := rfl
    rw [e] at h ⊢
    by_cases hf : (gText' 16 s).2 ≠ 0
    · rw [if_pos hf] at h
      exact absurd h hf
    · rw [if_neg hf] at h ⊢
      obtain ⟨h1, new, h2, h3, h4, h5⟩ := dimR_there i _ _ _ h
      obtain ⟨g1, g2, g3⟩ := gtext_there h1
      refine ⟨g1, gText 16 s :: new, by rw [h2]; simp, by rw [List.length_cons, h3], ?_, fun hb => ?_⟩
      · conv => lhs; rw [g2, h4]
        rw [List.flatMap_cons, List.append_assoc]
      · obtain ⟨b1, b2⟩ := h5 hb
        rw [Bool.or_eq_false_iff] at b1
        refine ⟨b1.1, fun ho => ?_⟩
        have := b2 (unrise_up b1.2 ho)
        rw [List.append_assoc] at this
        exact this
theorem dimD_there {s : St12} {bad : Bool} (h : (dimD s bad).1.2 = 0) : s.2 = 0 ∧ s.1 = dimB (dimD s bad).2.1 ++ (dimD s bad).1.1 ∧ ((dimD s bad).2.2 = false → bad = false ∧ (dimD s bad).2.1.Pairwise fun x y => Op.bytesLess x y = true) := by
  unfold dimD at *
  obtain ⟨h1, new, h2, h3, h4, h5⟩ := dimR_there _ _ _ _ h
  obtain ⟨g1, g2⟩ := gcount_there h1
  rw [List.nil_append] at h2
  refine ⟨g1, ?_, fun hb => ?_⟩
  · rw [h2]
    unfold dimB
    rw [h3, List.append_assoc, ← h4]
    exact g2
  · obtain ⟨b1, b2⟩ := h5 hb
    rw [h2]
    exact ⟨b1, by simpa using b2 List.Pairwise.nil⟩
theorem dimsB_same {T T' : Nat → List (List UInt8)} : ∀ N, (∀ d, d < N → T d = T' d) → dimsB T N = dimsB T' N
  | 0, _ => rfl
  | N + 1, h => by
    show dimsB T N ++ dimB (T N) = dimsB T' N ++ dimB (T' N)
    rw [dimsB_same N (fun d hd => h d (by omega)), h N (by omega)]
theorem dimsD_there : ∀ (N : Nat) (s : St12) (bad : Bool), (dimsD N s bad).1.2 = 0 → (dimsD N s bad).2.2 = false → s.2 = 0 ∧ bad = false ∧ s.1 = dimsB (dimsD N s bad).2.1 N ++ (dimsD N s bad).1.1 ∧ ∀ d, d < N → ((dimsD N s bad).2.1 d).Pairwise fun x y => Op.bytesLess x y = true
  | 0, s, bad, h, hb => ⟨h, hb, rfl, fun d hd => absurd hd (Nat.not_lt_zero d)⟩
  | N + 1, s, bad, h, hb => by
    obtain ⟨h1, h2, h3⟩ := dimD_there (s := (dimsD N s bad).1) (bad := (dimsD N s bad).2.2) h
    obtain ⟨b1, b2⟩ := h3 hb
    obtain ⟨g1, g2, g3, g4⟩ := dimsD_there N s bad h1 b1
    have eN : (dimsD (N + 1) s bad).2.1 N = (dimD (dimsD N s bad).1 (dimsD N s bad).2.2).2.1 := by
      show (if N = N then ofT _ else _) = _
      rw [if_pos rfl]
      obtain ⟨a1, a2⟩ := setG_is Op.bytesLess rises_bytes (dimD (dimsD N s bad).1 (dimsD N s bad).2.2).2.1
      exact rising_same rises_bytes a1 b2 a2
    have ed : ∀ d, d < N → (dimsD (N + 1) s bad).2.1 d = (dimsD N s bad).2.1 d := fun d hd => if_neg (by omega)
    refine ⟨g1, g2, ?_, fun d hd => ?_⟩
    · show _ = (dimsB _ N ++ dimB ((dimsD (N + 1) s bad).2.1 N)) ++ _
      rw [dimsB_same N ed, eN, List.append_assoc]
      have e9 : (dimsD (N + 1) s bad).1.1 = (dimD (dimsD N s bad).1 (dimsD N s bad).2.2).1.1 := rfl
      rw [e9, ← h2]
      exact g3
    · by_cases e : d = N
      · subst e; rw [eN]; exact b2
      · rw [ed d (by omega)]; exact g4 d (by omega)
theorem idxG_nth12 {T : List (List UInt8)} (h : T.Pairwise fun x y => Op.bytesLess x y = true) {n : Nat} {x : List UInt8} (hx : T[n]? = some x) : idxG x T = n := by
  have hm : x ∈ T := List.mem_of_getElem? hx
  have hi : idxG x T < T.length := idxG_mem.2 hm
  have ha := idxG_at (x := x) (l := T) rfl hi
  obtain ⟨hn, e1⟩ := List.getElem?_eq_some_iff.1 hx
  obtain ⟨hi2, e2⟩ := List.getElem?_eq_some_iff.1 ha
  rcases Nat.lt_trichotomy (idxG x T) n with c | c | c
  · have := List.pairwise_iff_getElem.1 h _ _ hi2 hn c
    rw [e1, e2, less_irr] at this
    cases this
  · exact c
  · have := List.pairwise_iff_getElem.1 h _ _ hn hi2 c
    rw [e1, e2, less_irr] at this
    cases this
theorem placesB_same {T : Nat → List (List UInt8)} {k k' : K9} : ∀ N, (∀ d, d < N → k.dim d = k'.dim d) → placesB T k N = placesB T k' N
  | 0, _ => rfl
  | N + 1, h => by
    show placesB T k N ++ enc (idxG (k.dim N) (T N)) = placesB T k' N ++ enc (idxG (k'.dim N) (T N))
    rw [placesB_same N (fun d hd => h d (by omega)), h N (by omega)]
theorem plcR_h (T : Nat → List (List UInt8)) (k0 : K9) (s : St12) (bad : Bool) : ∀ N, (plcR T k0 s bad N).1.h = k0.h
  | 0 => rfl
  | N + 1 => by
    show ((plcR T k0 s bad N).1.put N _).h = _
    rw [put_h12, plcR_h T k0 s bad N]
theorem plcR_there {T : Nat → List (List UInt8)} (k0 : K9) (s : St12) (bad : Bool) : ∀ N, N ≤ 4 → (∀ d, d < N → (T d).Pairwise fun x y => Op.bytesLess x y = true) → (plcR T k0 s bad N).2.1.2 = 0 → (plcR T k0 s bad N).2.2 = false →
    s.2 = 0 ∧ bad = false ∧ s.1 = placesB T (plcR T k0 s bad N).1 N ++ (plcR T k0 s bad N).2.1.1 ∧ ∀ d, d < N → (plcR T k0 s bad N).1.dim d ∈ T d
  | 0, _, _, h, hb => ⟨h, hb, rfl, fun d hd => absurd hd (Nat.not_lt_zero d)⟩
  | N + 1, hN, hT, h, hb => by
    obtain ⟨h1, h2⟩ := gcount_there (most := 65535) (s := (plcR T k0 s bad N).2.1) h
    have hb' : ((plcR T k0 s bad N).2.2 || ((T N)[gCount 65535 (plcR T k0 s bad N).2.1]?).isNone) = false := hb
    rw [Bool.or_eq_false_iff] at hb'
    obtain ⟨b1, b2⟩ := hb'
    obtain ⟨x, hx⟩ : ∃ x, (T N)[gCount 65535 (plcR T k0 s bad N).2.1]? = some x := by
      cases e : (T N)[gCount 65535 (plcR T k0 s bad N).2.1]? with
      | none => rw [e] at b2; cases b2
      | some x => exact ⟨x, rfl⟩
    obtain ⟨g1, g2, g3, g4⟩ := plcR_there k0 s bad N (by omega) (fun d hd => hT d (by omega)) h1 b1
    have ek : (plcR T k0 s bad (N + 1)).1 = (plcR T k0 s bad N).1.put N x := by
      show (plcR T k0 s bad N).1.put N _ = _
      rw [hx]
      rfl
    have eN : (plcR T k0 s bad (N + 1)).1.dim N = x := by rw [ek, dim_put12 (by omega) (by omega), if_pos rfl]
    have ed : ∀ d, d < N → (plcR T k0 s bad (N + 1)).1.dim d = (plcR T k0 s bad N).1.dim d := fun d hd => by rw [ek, dim_put12 (by omega) (by omega), if_neg (by omega)]
    refine ⟨g1, g2, ?_, fun d hd => ?_⟩
    · show _ = (placesB T _ N ++ enc (idxG ((plcR T k0 s bad (N + 1)).1.dim N) (T N))) ++ _
      rw [placesB_same N ed, eN, idxG_nth12 (hT N (by omega)) hx, List.append_assoc]
      have e9 : (plcR T k0 s bad (N + 1)).2.1.1 = (gCount' 65535 (plcR T k0 s bad N).2.1).1 := rfl
      rw [e9, ← h2]
      exact g3
    · by_cases e : d = N
      · subst e
        rw [eN]
        exact List.mem_of_getElem? hx
      · rw [ed d (by omega)]
        exact g4 d (by omega)
theorem wrap_pos12 {n : Nat} (hn : n < 18446744073709551616) (h : 1 ≤ IntKind.i64.wrap (n : Int)) : (IntKind.i64.wrap (n : Int)).toNat = n ∧ (n : Int) < 9223372036854775808 := by
  by_cases c : (n : Int) < 9223372036854775808
  · rw [IntWalk.i64_in _ (by omega)]
    exact ⟨Int.toNat_natCast n, c⟩
  · exfalso
    rw [IntKind.wrap_i64] at h
    omega
theorem wrap_fit12 (n : Int) : fit (IntKind.i64.wrap n) = true := by
  rw [fit_iff, IntKind.wrap_i64]
  omega
theorem cellR_ok (s : St12) : okC (cellR s) := ⟨wrap_fit12 _, gint_fit _, gint_fit _, gint_fit _⟩
theorem cell_there {s : St12} (h : (st4 s).2 = 0) (hc : 1 ≤ (cellR s).n) : s.2 = 0 ∧ s.1 = cellB (cellR s) ++ (st4 s).1 := by
  unfold st4 at *
  obtain ⟨h3, e3⟩ := gint_there h
  obtain ⟨h2, e2⟩ := gint_there h3
  obtain ⟨h1, e1⟩ := gint_there h2
  obtain ⟨h0, e0⟩ := gnum_there h1
  refine ⟨h0, ?_⟩
  unfold cellB
  have e : (cellR s).n.toNat = gNum s := (wrap_pos12 (gnum_lt s) hc).1
  rw [e]
  unfold cellR
  simp only [List.append_assoc]
  rw [← e3, ← e2, ← e1]
  exact e0
theorem st4_there {s : St12} (h : (st4 s).2 = 0) : s.2 = 0 ∧ (st4 s).1.length + 1 ≤ s.1.length := by
  unfold st4 at *
  obtain ⟨h3, e3⟩ := gnum_there h
  obtain ⟨h2, e2⟩ := gnum_there h3
  obtain ⟨h1, e1⟩ := gnum_there h2
  obtain ⟨h0, e0⟩ := gnum_there h1
  refine ⟨h0, ?_⟩
  have l3 := congrArg List.length e3
  have l2 := congrArg List.length e2
  have l1 := congrArg List.length e1
  have l0 := congrArg List.length e0
  have p0 := enc_pos (gNum s)
  simp only [List.length_append] at l0 l1 l2 l3
  omega

end Go.Proofs.YticglepkbihldaaGreat

/-
  Stage 11, plain: facts that weigh not too much, in whatever two parts.
-/
namespace Go.Proofs.YticglepkbihldaaGreat
open Go.RowKit

/-- A key's values. -/
def valsF (k : K9) (l : List F9) : List Int := (l.filter fun f => decide (f.k = k)).map (·.v)
theorem cells_facts (k : K9) (l : List F9) : cellsOf k (l.map rowF) = (valsF k l).map Cl.of := by
  induction l with
  | nil => rfl
  | cons f t ih =>
    show (if f.k = k then Cl.of f.v :: cellsOf k (t.map rowF) else cellsOf k (t.map rowF)) = _
    unfold valsF at ih ⊢
    rw [List.filter_cons]
    by_cases h : f.k = k
    · rw [if_pos h, if_pos (decide_eq_true h), ih]
      rfl
    · rw [if_neg h, if_neg (by simpa using h), ih]
theorem valsF_append (k : K9) (l m : List F9) : valsF k (l ++ m) = valsF k l ++ valsF k m := by
  unfold valsF
  rw [List.filter_append, List.map_append]
def optL (vs : List Int) : Option Cl := if vs = [] then none else some (cellL vs)
theorem more_vals : ∀ (ws vs : List Int), vs ≠ [] → weighN vs + weighN ws ≤ 4611686018427387904 → vs.length + ws.length ≤ 1000000 → moreO (some (cellL vs)) (ws.map Cl.of) = some (some (cellL (vs ++ ws)))
  | [], vs, _, _, _ => by rw [List.append_nil]; rfl
  | w :: ws, vs, h, hw, hl => by
    have e1 : weighN (w :: ws) = weighN [w] + weighN ws := weighN_append [w] ws
    rw [List.length_cons] at hl
    have hm := merge_parts vs [w] (by omega) (by rw [List.length_singleton]; omega)
    rw [cellL_one] at hm
    have ih := more_vals ws (vs ++ [w]) (by simp) (by rw [weighN_append]; omega) (by rw [List.length_append, List.length_singleton]; omega)
    rw [List.append_assoc, List.singleton_append] at ih
    rw [List.map_cons]
    have ha : addO (some (cellL vs)) (Cl.of w) = some (cellL (vs ++ [w])) := hm
    simp only [moreO, ha]
    exact ih
theorem more_none (ws : List Int) (hw : weighN ws ≤ 4611686018427387904) (hl : ws.length ≤ 1000000) : moreO none (ws.map Cl.of) = some (optL ws) := by
  cases ws with
  | nil => rfl
  | cons w ws =>
    have e1 : weighN (w :: ws) = weighN [w] + weighN ws := weighN_append [w] ws
    rw [List.length_cons] at hl
    have h := more_vals ws [w] (by simp) (by omega) (by rw [List.length_singleton]; omega)
    rw [cellL_one, List.singleton_append] at h
    rw [List.map_cons]
    simp only [moreO, addO]
    rw [h]
    rfl

/-- Facts whose values weigh not too much. -/
def Small (l : List F9) : Prop := l.length ≤ 100 ∧ ∀ f ∈ l, f.v.natAbs ≤ 1099511627776
theorem weigh_le {l : List F9} (h : ∀ f ∈ l, f.v.natAbs ≤ 1099511627776) : weighN (l.map (·.v)) ≤ l.length * 1099511627776 := by
  induction l with
  | nil => exact Nat.le_refl _
  | cons f t ih =>
    have e1 : weighN ((f :: t).map (·.v)) = weighN [f.v] + weighN (t.map (·.v)) := weighN_append [f.v] _
    have h1 := h f (List.mem_cons_self ..)
    have h2 := ih (fun g hg => h g (List.mem_cons_of_mem _ hg))
    have e2 : weighN [f.v] = f.v.natAbs := by simp [weighN]
    rw [e1, e2, List.length_cons]
    omega
theorem Small.vals {l : List F9} (h : Small l) (k : K9) : weighN (valsF k l) ≤ 109951162777600 ∧ (valsF k l).length ≤ 100 := by
  have hlen : (l.filter fun f => decide (f.k = k)).length ≤ l.length := List.length_filter_le _ _
  have h1 := weigh_le (l := l.filter fun f => decide (f.k = k)) (fun f hf => h.2 f (List.mem_filter.1 hf).1)
  have h2 := h.1
  refine ⟨?_, ?_⟩
  · show weighN ((l.filter fun f => decide (f.k = k)).map (·.v)) ≤ _
    have h3 : (l.filter fun f => decide (f.k = k)).length * 1099511627776 ≤ 100 * 1099511627776 := Nat.mul_le_mul_right _ (by omega)
    omega
  · unfold valsF
    rw [List.length_map]
    omega
theorem Small.part {l m : List F9} (h : Small l) (hm : ∀ f ∈ m, f ∈ l) (hl : m.length ≤ l.length) : Small m := ⟨Nat.le_trans hl h.1, fun f hf => h.2 f (hm f hf)⟩
theorem of_small {l : List F9} (h : Small l) : ∃ r, ofR l = some r ∧ RiseR r ∧ ∀ k, findR k r = optL (valsF k l) := by
  have key : ∀ k, moreO none (cellsOf k (l.map rowF)) = some (optL (valsF k l)) := fun k => by
    obtain ⟨h1, h2⟩ := h.vals k
    rw [cells_facts]
    exact more_none _ (by omega) (by omega)
  obtain ⟨r, e1, e2, e3⟩ := puts_some (l := l.map rowF) (acc := []) List.Pairwise.nil (fun k => by show moreO none _ ≠ _; rw [key k]; simp)
  refine ⟨r, e1, e2, fun k => ?_⟩
  have a := e3 k
  rw [show findR k [] = none from rfl, key k] at a
  exact (Option.some.inj a).symm
theorem cellsOf_rise {k : K9} : ∀ {r : List R11}, RiseR r → cellsOf k r = (findR k r).toList
  | [], _ => rfl
  | x :: t, h => by
    obtain ⟨h1, h2⟩ := List.pairwise_cons.1 h
    have ih := cellsOf_rise (k := k) h2
    show (if x.k = k then x.c :: cellsOf k t else cellsOf k t) = (if x.k = k then some x.c else findR k t).toList
    by_cases e : x.k = k
    · subst e
      rw [if_pos rfl, if_pos rfl, ih, find_above h1]
      rfl
    · rw [if_neg e, if_neg e, ih]
theorem cellL_swap (a b : List Int) (h : weighN a + weighN b ≤ 4611686018427387904) (hl : a.length + b.length ≤ 1000000) : cellL (a ++ b) = cellL (b ++ a) := by
  by_cases ha : a = []
  · subst ha; simp
  · have h1 := merge_parts a b h hl
    have h2 := merge_parts b a (by omega) (by omega)
    have hn : (cellL a).n ≠ 0 := by
      rw [cellL_n]
      have := List.length_pos_iff.2 ha
      omega
    rw [merge_swap _ _ (.inl hn), h2] at h1
    exact (Option.some.inj h1).symm
/-- Facts in two parts, the second part first: the same segment. -/
theorem parts_small {a b : List F9} {ra rb r : List R11} (h : Small (a ++ b)) (h1 : RiseR ra ∧ ∀ k, findR k ra = optL (valsF k a)) (h2 : RiseR rb ∧ ∀ k, findR k rb = optL (valsF k b)) (h3 : RiseR r ∧ ∀ k, findR k r = optL (valsF k (a ++ b))) : mergeR [rb, ra] = some r := by
  unfold mergeR
  refine puts_is h3.1 fun k => ?_
  have hv := h.vals k
  rw [valsF_append, weighN_append, List.length_append] at hv
  have e : [rb, ra].flatten = rb ++ ra := by simp
  rw [e, cellsOf_append, cellsOf_rise h2.1, cellsOf_rise h1.1, h2.2 k, h1.2 k, h3.2 k, valsF_append]
  generalize valsF k a = va at *
  generalize valsF k b = vb at *
  unfold optL
  by_cases ha : va = []
  · subst ha
    by_cases hb : vb = []
    · subst hb; simp [moreO]
    · simp [hb, moreO, addO]
  · by_cases hb : vb = []
    · subst hb
      simp [ha, moreO, addO]
    · have hm := merge_parts vb va (by omega) (by omega)
      simp only [ha, hb, if_false, Option.toList_some, List.singleton_append, moreO, addO, hm, List.append_eq_nil_iff, false_and]
      rw [cellL_swap vb va (by omega) (by omega)]

/-- All cells merged, in order. -/
def totalR : Cl → List R11 → Option Cl
  | c, [] => some c
  | c, r :: t => match mergeC c r.c with
    | some d => totalR d t
    | none => none
theorem total_vals {l : List F9} : ∀ (r : List R11) (vs : List Int), (∀ x ∈ r, x.c = cellL (valsF x.k l)) → weighN vs + weighN (r.flatMap fun x => valsF x.k l) ≤ 4611686018427387904 → vs.length + (r.flatMap fun x => valsF x.k l).length ≤ 1000000 → totalR (cellL vs) r = some (cellL (vs ++ r.flatMap fun x => valsF x.k l))
  | [], vs, _, _, _ => by rw [List.flatMap_nil, List.append_nil]; rfl
  | x :: t, vs, h, hw, hl => by
    rw [List.flatMap_cons, weighN_append] at hw
    rw [List.flatMap_cons, List.length_append] at hl
    have hm := merge_parts vs (valsF x.k l) (by omega) (by omega)
    have ih := total_vals t (vs ++ valsF x.k l) (fun y hy => h y (List.mem_cons_of_mem _ hy)) (by rw [weighN_append]; omega) (by rw [List.length_append]; omega)
    unfold totalR
    rw [h x (List.mem_cons_self ..), hm]
    dsimp only
    rw [ih, List.flatMap_cons, List.append_assoc]
theorem weigh_perm {a b : List Int} (h : a.Perm b) : weighN a = weighN b := by
  induction h with
  | nil => rfl
  | cons x _ ih => simp [weighN] at *; omega
  | swap x y l => simp [weighN]; omega
  | trans _ _ h1 h2 => exact h1.trans h2
theorem keys_perm (l : List F9) : ∀ {r : List R11}, RiseR r → (r.flatMap fun x => l.filter fun f => decide (f.k = x.k)).Perm (l.filter fun f => decide (f.k ∈ r.map (·.k)))
  | [], _ => by simp
  | x :: t, h => by
    obtain ⟨h1, h2⟩ := List.pairwise_cons.1 h
    have ih := keys_perm l h2
    have hnot : x.k ∉ t.map (·.k) := fun hm => by
      obtain ⟨y, hy, e⟩ := List.mem_map.1 hm
      have h3 := h1 y hy
      rw [e, key_irr] at h3
      cases h3
    rw [List.flatMap_cons]
    refine (List.Perm.append_left _ ih).trans ?_
    have hp := List.filter_append_perm (fun f : F9 => decide (f.k = x.k)) (l.filter fun f => decide (f.k ∈ (x :: t).map (·.k)))
    refine List.Perm.trans (List.Perm.of_eq ?_) hp
    rw [List.filter_filter, List.filter_filter]
    congr 1
    · refine List.filter_congr fun f _ => ?_
      by_cases e : f.k = x.k
      · simp [e]
      · simp [e]
    · refine List.filter_congr fun f _ => ?_
      by_cases e : f.k = x.k
      · rw [e]
        simp only [hnot, decide_false, decide_true, Bool.not_true, Bool.false_and]
      · simp [e]
/-- The total of a segment counts all facts. -/
theorem total_small {l : List F9} {r : List R11} (h : Small l) (hr : RiseR r) (hf : ∀ k, findR k r = optL (valsF k l)) : ∃ c, totalR Cl.zero r = some c ∧ c.n = l.length := by
  have hc : ∀ x ∈ r, x.c = cellL (valsF x.k l) := fun x hx => by
    have e := hf x.k
    rw [find_of hr hx] at e
    unfold optL at e
    split at e
    · cases e
    · exact Option.some.inj e
  have hall : (l.filter fun f => decide (f.k ∈ r.map (·.k))) = l := by
    refine List.filter_eq_self.2 fun f hfl => decide_eq_true ?_
    have e := hf f.k
    have hne : valsF f.k l ≠ [] := fun e2 => by
      have h1 : f.v ∈ valsF f.k l := List.mem_map.2 ⟨f, List.mem_filter.2 ⟨hfl, by simp⟩, rfl⟩
      rw [e2] at h1
      cases h1
    unfold optL at e
    rw [if_neg hne] at e
    exact List.mem_map.2 ⟨_, find_mem e, rfl⟩
  have hp := keys_perm l hr
  rw [hall] at hp
  have e1 : (r.flatMap fun x => valsF x.k l) = (r.flatMap fun x => l.filter fun f => decide (f.k = x.k)).map (·.v) := by
    rw [List.map_flatMap]
    rfl
  have hw : weighN (r.flatMap fun x => valsF x.k l) ≤ 109951162777600 := by
    rw [e1, weigh_perm (hp.map _)]
    have h1 := weigh_le h.2
    have h2 : l.length * 1099511627776 ≤ 100 * 1099511627776 := Nat.mul_le_mul_right _ h.1
    omega
  have hl : (r.flatMap fun x => valsF x.k l).length = l.length := by rw [e1, List.length_map, hp.length_eq]
  have ht := total_vals r [] hc (by have : weighN [] = 0 := rfl; omega) (by rw [hl]; have := h.1; simp; omega)
  rw [List.nil_append] at ht
  exact ⟨_, ht, by rw [cellL_n, hl]⟩

end Go.Proofs.YticglepkbihldaaGreat
