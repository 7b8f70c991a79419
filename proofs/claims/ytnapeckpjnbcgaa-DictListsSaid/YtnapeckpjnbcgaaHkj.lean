
/-
  A map's keys, rising, by a range over a function: rising, All (keys int64, values int).
-/
import Derived.Test.YtnapeckpjnbcgaaHjj
namespace Go.Proofs.Ytnapeckpjnbcgaa.omj
open Go.RowKit Go.Shelf
attribute [local go_sem] Oper.semAt_some wide_fn

theorem yield_depth {m m' : Nat} {P : Program} {l : Nat} {args : Array Value} {W : World} {R : Ending → World → Prop} (h : YieldAt Fence.wide m P l args W R) : YieldAt Fence.wide m' P l args W R := by
  obtain ⟨fn, tmps, assign, body, hy, hR⟩ := h
  exact ⟨fn, tmps, assign, body, hy, hR.1, fun c cs _ => hR.2 c cs (room_wide _)⟩
theorem calls_depth {m m' : Nat} {P : Program} {f : FuncId} {args : Array Value} {W : World} {R : Ending → World → Prop} (h : CallsIn Fence.wide m P f args W R) : CallsIn Fence.wide m' P f args W R := callsIn_wide.2 (callsIn_wide.1 h)

/-- What a range over a map has at hand: where its tree's root, and what says what is ahead, lie; the tree; what is ahead. -/
structure Src (w : World) (q1 q2 : Nat) (A : Option Addr) (fa : Nat) (caps : Array Value) (x : Tr Int Int) (ah : Int → Bool) : Prop where
  root : Box w q1 85 #[.pointer A]
  fun' : Box w q2 90 #[.func (.func fa) #[] caps]
  tree : Nd w x (.pointer A)
  up : Up ltI x.flat
  enters : ∀ args w, (callFunc fa args).run Try.prog w = .ok (.enter fa args) w
  falls : Falls ah

set_option maxRecDepth 100000 in
set_option maxHeartbeats 1000000 in
theorem rising_feeds (n : Nat) {w : World} {q1 q2 : Nat} {A : Option Addr} {fa : Nat} {caps : Array Value} {x : Tr Int Int} {ah : Int → Bool} (h : Src w q1 q2 A fa caps x ah) (S : Nat → Prop) (h1 : ¬ S q1) (h2 : ¬ S q2) (hB : Base S w)
    (hA : ∀ key W, Turn S w W → Calls Try.prog fa (#[(.int .i64 key)] ++ caps) W fun e W' => e = .returned (.bool (ah key)) ∧ W = W') :
    Feeds n 63 #[.pointer (some ⟨q1, 0, none⟩), .pointer (some ⟨q2, 0, none⟩)] prs S (fun pre y _ => pre ++ [y] <+: Kept ah x) (fun xs => xs = Kept ah x) (fun pre => pre <+: Kept ah x) w := fun l J Jx W hW _ _ hJ hJx hY h0 => by
  have hWS : Turn S w W := hW.none
  have hc1 := (h.root.turn hWS h1).cell 0
  have hc2 := (h.fun'.turn hWS h2).cell 0
  have HR : Hid (Rounds l fa caps ah S w J Jx (Kept ah x)) := ⟨fun pre W1 hj => hJ _ _ _ hj ((Turn.refl (fun _ => False) W1).drew.none), h.enters, hA, fun pre y W1 hj _ hp => yield_depth (hY pre y W1 hj hp)⟩
  have HE := Lib.hid (each_any l fa caps ah S w J Jx (Kept ah x) HR.out hB h.falls x (.pointer A) [] W h.tree hWS h0 h.up (by rw [List.nil_append]; exact List.prefix_refl _))
  clear h0 hJ hJx hY hA h hB HR
  refine callsIn_of_wp Try.func63 rfl trivial ?_ rfl
  simp only [Try.ntmps63, List.size_toArray, List.length_cons, List.length_nil, Nat.reduceAdd, Nat.reduceSub, Array.replicate_succ, Array.replicate_zero, List.push_toArray, List.append_toArray, List.nil_append, List.cons_append]
  gi_wp2_with fail
  refine ⟨fun h => by (cases h), (calls_depth HE.out).mono ?_⟩
  rintro e W1 (⟨rfl, hj, _, _⟩ | ⟨rfl, ⟨q, hq, hx⟩, _⟩)
  · have HJ := Lib.hid hj; clear hj
    gi_wp2
    go_end0
    exact ⟨⟨_, rfl⟩, .inl ⟨_, rfl, by have := HJ.out; rwa [List.nil_append] at this⟩⟩
  · have HX := Lib.hid hx; have HQ := Lib.hid hq; clear hx hq
    gi_wp2
    go_end0
    exact ⟨⟨_, rfl⟩, .inr ⟨q, by have := HQ.out; rwa [List.nil_append] at this, HX.out⟩⟩

/-- The range over a map that rising makes. -/
def RisV (q1 q2 : Nat) : Value := .func (.func 63) #[] #[.pointer (some ⟨q1, 0, none⟩), .pointer (some ⟨q2, 0, none⟩)]
structure Ris (w w' : World) (q1 q2 : Nat) (fa : Nat) (caps : Array Value) (L : List (Int × Int)) : Prop where
  out : ∃ (A : Option Addr) (x : Tr Int Int), Box w' q1 85 #[.pointer A] ∧ Box w' q2 90 #[.func (.func fa) #[] caps] ∧ Nd w' x (.pointer A) ∧ x.flat = L
  up : Up ltI L
  new1 : w.heap.size ≤ q1
  new2 : w.heap.size ≤ q2
  turn : Turn (fun _ => False) w w'

set_option maxRecDepth 100000 in
theorem rising_any (fa : Nat) (caps : Array Value) {w : World} {g : Nat} {L : List (Int × Int)} (h : MP w g L) :
    Calls Try.prog 49 #[.pointer (some ⟨g, 0, none⟩), .func (.func fa) #[] caps] w fun e w' => ∃ q1 q2, e = .returned (RisV q1 q2) ∧ Ris w w' q1 q2 fa caps L := by
  have HU := Lib.hid h.up
  obtain ⟨x, A, hb, hx, hf⟩ := h.out
  have hne1 : w.heap.size ≠ g := by have := hb.lt; omega
  have hne2 : w.heap.size + 1 ≠ g := by have := hb.lt; omega
  have hc := ((hb.alloc (.cells #[.func (.func fa) #[] caps] 90)).alloc (.cells #[.pointer none] 85)).cell 0
  have HX := Lib.hid hx; have HF := Lib.hid hf
  clear h hb hx hf
  go_enter Try.func49, Try.ntmps49
  go_wp2
  go_ret
  exact ⟨w.heap.size + 1, w.heap.size, rfl, ⟨A, x, by have := Box.new (w.alloc (.cells #[.func (.func fa) #[] caps] 90)) 85 #[.pointer (A)]; rw [World.size_alloc] at this; exact this, (Box.new w 90 #[.func (.func fa) #[] caps]).alloc _, HX.out.later (((Turn.refl _ w).alloc _).alloc _), HF.out⟩, HU.out, Nat.le_succ _, Nat.le_refl _, ((Turn.refl _ w).alloc _).alloc _⟩

set_option maxRecDepth 100000 in
theorem rising_nil (fa : Nat) (caps : Array Value) (w : World) :
    Calls Try.prog 49 #[.pointer none, .func (.func fa) #[] caps] w fun e w' => ∃ q1 q2, e = .returned (RisV q1 q2) ∧ Ris w w' q1 q2 fa caps [] := by
  have HU : Hid (Up ltI ([] : List (Int × Int))) := up_nil
  go_enter Try.func49, Try.ntmps49
  go_wp2
  go_ret
  exact ⟨w.heap.size + 1, w.heap.size, rfl, ⟨none, .nil, by have := Box.new (w.alloc (.cells #[.func (.func fa) #[] caps] 90)) 85 #[.pointer (none)]; rw [World.size_alloc] at this; exact this, (Box.new w 90 #[.func (.func fa) #[] caps]).alloc _, rfl, rfl⟩, HU.out, Nat.le_succ _, Nat.le_refl _, ((Turn.refl _ w).alloc _).alloc _⟩

set_option maxRecDepth 100000 in
theorem none_any (key : Int) (w : World) : Calls Try.prog 50 #[(.int .i64 key)] w fun e w' => e = .returned (.bool false) ∧ w = w' := by
  go_enter Try.func50, Try.ntmps50
  go_wp2
  go_ret
  exact ⟨rfl, rfl⟩

/-- What All makes, of a map whose list is L. -/
def AllPost (w : World) (L : List (Int × Int)) (e : Ending) (w' : World) : Prop := ∃ q1 q2, e = .returned (RisV q1 q2) ∧ Ris w w' q1 q2 50 #[] L

set_option maxRecDepth 100000 in
theorem all_any {w : World} {g : Nat} {L : List (Int × Int)} (h : MP w g L) :
    Calls Try.prog 35 #[.pointer (some ⟨g, 0, none⟩)] w fun e w' => AllPost w L e w' := by
  have HR := Lib.hid (rising_any 50 #[] h)
  clear h
  go_enter Try.func35, Try.ntmps35
  go_wp2_with (go_at_call 49; refine HR.out.mono ?_; rintro e w' ⟨q1, q2, rfl, hr⟩; have HX := Lib.hid hr; clear hr; unfold RisV)
  go_ret
  exact ⟨q1, q2, rfl, HX.out⟩
set_option maxRecDepth 100000 in
theorem all_nil (w : World) : Calls Try.prog 35 #[.pointer none] w fun e w' => AllPost w [] e w' := by
  have HR := Lib.hid (rising_nil 50 #[] w)
  go_enter Try.func35, Try.ntmps35
  go_wp2_with (go_at_call 49; refine HR.out.mono ?_; rintro e w' ⟨q1, q2, rfl, hr⟩; have HX := Lib.hid hr; clear hr; unfold RisV)
  go_ret
  exact ⟨q1, q2, rfl, HX.out⟩

theorem kept_none (x : Tr Int Int) : Kept (fun _ => false) x = x.flat := by unfold Kept; simp

theorem all_feeds (n : Nat) {w w' : World} {q1 q2 : Nat} {L : List (Int × Int)} (h : Ris w w' q1 q2 50 #[] L) (S : Nat → Prop) (h1 : ¬ S q1) (h2 : ¬ S q2) (hB : Base S w') :
    Feeds n 63 #[.pointer (some ⟨q1, 0, none⟩), .pointer (some ⟨q2, 0, none⟩)] prs S (fun pre y _ => pre ++ [y] <+: L) (fun xs => xs = L) (fun pre => pre <+: L) w' := by
  obtain ⟨A, x, hb1, hb2, hx, hf⟩ := h.out
  have hs : Src w' q1 q2 A 50 #[] x (fun _ => false) := ⟨hb1, hb2, hx, by rw [hf]; exact h.up, enters_of Try.func50 (by kernel_rfl) rfl, fun _ _ _ h => h⟩
  have := rising_feeds n hs S h1 h2 hB (fun key W _ => none_any key W)
  rw [kept_none, hf] at this
  exact this

end Go.Proofs.Ytnapeckpjnbcgaa.omj
