
/-
  Stage 8: numbers, channels and lanes in memory; what lanes answer, plain.
-/
import Derived.Test.YtemcijfakimkkaaEr
import Derived.Test.YtemcijfakimkkaaDa
import Derived.Test.YtemcijfakimkkaaGf
import Derived.ProofKit
import Derived.WalkMore
namespace Go.Proofs.Ytemcijfakimkkaa
open Go.RowKit Go.Conc

/-- A number's cell. -/
def E8 : El Int where
  sz := 1
  enc p := [.int .i64 p]
  len _ := rfl
  one p u hu := by rw [List.mem_singleton.1 hu]; rfl
theorem num_info8 : (Try.prog.info? 2).map (fun i => (i.zero, i.size, i.bytes)) = some (some (.int .i64 0), E8.sz, 8) := by kernel_rfl
theorem num_zero8 : (Value.cells (.int .i64 0)).size = E8.sz := rfl
theorem num_at {w : World} {A : Option Addr} {n c : Nat} {L : List Int} (h : RdE E8 w (.slice A n c) L) {j : Nat} {x : Int} (hj : L[j]? = some x) :
    ∃ ad, A = some ad ∧ ∀ W, Turn (fun _ => False) w W → W.cell? (ad.add j) = some (.int .i64 x) := by
  obtain ⟨ad, hA, _⟩ := h.cells hj
  refine ⟨ad, hA, fun W ht => ?_⟩
  obtain ⟨ad', hA', hc⟩ := (h.later ht).cells hj
  rw [hA] at hA'
  cases hA'
  have h1 := hc 0 _ rfl
  rwa [show j * E8.sz + 0 = j from by simp [E8]] at h1

/-- Blocks of S hold no number. -/
def NoNum (S : Nat → Prop) (w : World) : Prop := ∀ (p : Addr) (x : Int), S p.block → w.cell? p ≠ some (.int .i64 x)
theorem noNum_none (w : World) : NoNum (fun _ => False) w := fun _ _ h => h.elim
theorem cell_chan {w : World} {p : Addr} {cap s r : Nat} {buf : Array Value} {cl tm : Bool} (h : w.heap[p.block]? = some (.chan cap buf cl s r tm)) : w.cell? p = none := by
  simp [World.cell?, h]
theorem noNum_box {w : World} {g : Nat} {t : TypeId} {cs : Array Value} (hb : Box w g t cs) (h : ∀ (i : Nat) (x : Int), cs[i]? ≠ some (.int .i64 x)) : NoNum (fun k => k = g) w := fun p x e => by
  unfold Box at hb
  rw [← e] at hb
  simp only [World.cell?, hb]
  split
  · simp
  · exact h _ _
theorem rd_keeps {S : Nat → Prop} {w w' : World} {v : Value} {l : List Int} (h : RdE E8 w v l) (ht : Turn S w w') (hn : NoNum S w) : RdE E8 w' v l := by
  obtain ⟨A, c, rfl, hk, hz, hc⟩ := h
  refine ⟨A, c, rfl, hk, hz, fun ad e i u hi => ?_⟩
  have h1 := hc ad e i u hi
  obtain ⟨x, rfl⟩ : ∃ x, u = .int .i64 x := by
    obtain ⟨t, _, hm⟩ := List.mem_flatMap.1 (List.mem_of_getElem? hi)
    exact ⟨t, List.mem_singleton.1 hm⟩
  rw [ht.cell (World.block_lt_of_cell? w _ h1) (fun s => hn _ _ s h1)]
  exact h1
theorem Turn.setChan {S : Nat → Prop} {a w : World} (h : Turn S a w) {c : Nat} (hc : c < a.heap.size → S c) (cap : Nat) (buf : Array Value) (cl : Bool) (s r : Nat) (tm : Bool) : Turn S a (w.setChan c cap buf cl s r tm) :=
  ⟨h.os, h.tape, h.output, Nat.le_trans h.size (by simp [World.setChan]), fun k hk hn => by
    rw [← h.block k hk hn]
    simp only [World.setChan]
    rw [Array.getElem?_setIfInBounds_ne (fun e => hn (by subst e; exact hc hk))]⟩

/-- A channel of pointers to boxes: its things are l. -/
def Ch (w : World) (c room : Nat) (l : List Int) : Prop :=
  ∃ (ps : List (Nat × Int)) (s r : Nat), w.heap[c]? = some (.chan room (ps.map (fun p => Value.pointer (some ⟨p.1, 0, none⟩))).toArray false s r false) ∧ ps.map (·.2) = l ∧ ∀ p ∈ ps, Box w p.1 2 #[.int .i64 p.2]
section
variable {S : Nat → Prop} {w w' : World} {c room : Nat} {l : List Int}
theorem Ch.turn (h : Ch w c room l) (ht : Turn S w w') (hc : ¬ S c) (hn : NoNum S w) : Ch w' c room l := by
  obtain ⟨ps, s, r, h1, h2, h3⟩ := h
  exact ⟨ps, s, r, (ht.block c (Array.getElem?_eq_some_iff.1 h1).1 hc).trans h1, h2, fun p hp => (h3 p hp).turn ht (fun e => hn ⟨p.1, 0, none⟩ p.2 e ((h3 p hp).cell 0))⟩
theorem Ch.later (h : Ch w c room l) (ht : Turn (fun _ => False) w w') : Ch w' c room l := h.turn ht (fun f => f) (noNum_none w)
theorem Ch.lt (h : Ch w c room l) : c < w.heap.size := by
  obtain ⟨ps, s, r, h1, _⟩ := h
  exact (Array.getElem?_eq_some_iff.1 h1).1
theorem Ch.ne_box (h : Ch w c room l) {g : Nat} {t : TypeId} {cs : Array Value} (hb : Box w g t cs) : c ≠ g := fun e => by
  obtain ⟨ps, s, r, h1, _⟩ := h
  subst e
  cases h1.symm.trans hb
theorem Ch.noNum (h : Ch w c room l) : NoNum (fun k => k = c) w := fun p x e => by
  obtain ⟨ps, s, r, h1, _⟩ := h
  rw [← e] at h1
  rw [cell_chan h1]
  simp
/-- One more. -/
theorem Ch.put (x : Int) {s r b : Nat} {ps : List (Nat × Int)} (h1 : w.heap[c]? = some (.chan room (ps.map (fun p => Value.pointer (some ⟨p.1, 0, none⟩))).toArray false s r false)) (h2 : ps.map (·.2) = l) (h3 : ∀ p ∈ ps, Box w p.1 2 #[.int .i64 p.2])
    (hb : Box w b 2 #[.int .i64 x]) : Ch (w.setChan c room ((ps.map (fun p => Value.pointer (some ⟨p.1, 0, none⟩))).toArray.push (.pointer (some ⟨b, 0, none⟩))) false (s + 1) r false) c room (l ++ [x]) := by
  have hlt := (Array.getElem?_eq_some_iff.1 h1).1
  have hne : ∀ k t cs, Box w k t cs → c ≠ k := fun k t cs hk e => by subst e; cases h1.symm.trans hk
  refine ⟨ps ++ [(b, x)], s + 1, r, ?_, by simp [h2], fun p hp => ?_⟩
  · rw [heap_setChan _ _ _ _ _ _ _ _ hlt]
    simp
  · have h4 : Box w p.1 2 #[.int .i64 p.2] := by
      rcases List.mem_append.1 hp with h | h
      · exact h3 p h
      · rw [List.mem_singleton.1 h]; exact hb
    have hn := hne _ _ _ h4
    unfold Box at h4 ⊢
    simp only [World.setChan]
    rw [Array.getElem?_setIfInBounds_ne hn]
    exact h4
/-- One less. -/
theorem Ch.from {x : Int} {s r b : Nat} {ps : List (Nat × Int)} (h1 : w.heap[c]? = some (.chan room (((b, x) :: ps).map (fun p => Value.pointer (some ⟨p.1, 0, none⟩))).toArray false s r false)) (h2 : ps.map (·.2) = l) (h3 : ∀ p ∈ (b, x) :: ps, Box w p.1 2 #[.int .i64 p.2]) :
    Ch (w.setChan c room ((((b, x) :: ps).map (fun p => Value.pointer (some ⟨p.1, 0, none⟩))).toArray.extract 1 (((b, x) :: ps).map (fun p => Value.pointer (some ⟨p.1, 0, none⟩))).toArray.size) false s (r + 1) false) c room l := by
  have hlt := (Array.getElem?_eq_some_iff.1 h1).1
  have hne : ∀ k t cs, Box w k t cs → c ≠ k := fun k t cs hk e => by subst e; cases h1.symm.trans hk
  refine ⟨ps, s, r + 1, ?_, h2, fun p hp => ?_⟩
  · rw [heap_setChan _ _ _ _ _ _ _ _ hlt]
    simp
    exact List.take_of_length_le (by simp)
  · have h4 := h3 p (List.mem_cons_of_mem _ hp)
    have hn := hne _ _ _ h4
    unfold Box at h4 ⊢
    simp only [World.setChan]
    rw [Array.getElem?_setIfInBounds_ne hn]
    exact h4
end

/-- The program's lanes in memory: the object at block g, its row at ar, the channels cs, what is in each. -/
structure LP (w : World) (g ar : Nat) (cs : List Nat) (room : Nat) (LL : List (List Int)) : Prop where
  obj : Box w g 51 #[.slice (some ⟨ar, 0, none⟩) cs.length cs.length]
  row : Box w ar 52 (cs.map (fun c => Value.chan (some c))).toArray
  nodup : cs.Nodup
  len : LL.length = cs.length
  few : cs.length ≤ 8
  small : room ≤ 64
  full : ∀ l ∈ LL, l.length ≤ room
  chs : ∀ (j c : Nat) (l : List Int), cs[j]? = some c → LL[j]? = some l → Ch w c room l
section
variable {S : Nat → Prop} {w w' : World} {g ar room : Nat} {cs : List Nat} {LL : List (List Int)}
theorem LP.turn (h : LP w g ar cs room LL) (ht : Turn S w w') (hg : ¬ S g) (ha : ¬ S ar) (hc : ∀ c ∈ cs, ¬ S c) (hn : NoNum S w) : LP w' g ar cs room LL :=
  ⟨h.obj.turn ht hg, h.row.turn ht ha, h.nodup, h.len, h.few, h.small, h.full, fun j c l h1 h2 => (h.chs j c l h1 h2).turn ht (hc c (List.mem_of_getElem? h1)) hn⟩
theorem LP.later (h : LP w g ar cs room LL) (ht : Turn (fun _ => False) w w') : LP w' g ar cs room LL := h.turn ht (fun f => f) (fun f => f) (fun _ _ f => f) (noNum_none w)
theorem LP.is_chan (h : LP w g ar cs room LL) {c : Nat} (hc : c ∈ cs) : ∃ l, Ch w c room l := by
  obtain ⟨j, hj, e⟩ := List.getElem_of_mem hc
  have hjl : j < LL.length := by rw [h.len]; exact hj
  exact ⟨LL[j], h.chs j c LL[j] (by rw [List.getElem?_eq_getElem hj, e]) (List.getElem?_eq_getElem hjl)⟩
theorem LP.noNum (h : LP w g ar cs room LL) : NoNum (fun k => k ∈ cs) w := fun p x e => by
  obtain ⟨l, hl⟩ := h.is_chan e
  exact hl.noNum p x rfl
theorem LP.ne_box (h : LP w g ar cs room LL) {b : Nat} {t : TypeId} {vs : Array Value} (hb : Box w b t vs) : b ∉ cs := fun e => by
  obtain ⟨l, hl⟩ := h.is_chan e
  exact hl.ne_box hb rfl
/-- One lane has turned. -/
theorem LP.set (h : LP w g ar cs room LL) {j c : Nat} {l : List Int} (hj : cs[j]? = some c) (ht : Turn (fun k => k = c) w w') (hc : Ch w' c room l) (hl : l.length ≤ room) : LP w' g ar cs room (LL.set j l) := by
  have hm : c ∈ cs := List.mem_of_getElem? hj
  have hjl : j < LL.length := by rw [h.len]; exact (List.getElem?_eq_some_iff.1 hj).1
  obtain ⟨l0, h0⟩ := h.is_chan hm
  refine ⟨h.obj.turn ht (fun e => h.ne_box h.obj (e ▸ hm)), h.row.turn ht (fun e => h.ne_box h.row (e ▸ hm)), h.nodup, by rw [List.length_set, h.len], h.few, h.small, fun m hm => ?_, fun i d m h1 h2 => ?_⟩
  · rcases List.mem_or_eq_of_mem_set hm with h1 | h1
    · exact h.full m h1
    · rw [h1]; exact hl
  · by_cases e : j = i
    · subst e
      rw [List.getElem?_set_self hjl] at h2
      rw [hj] at h1
      cases h1; cases h2
      exact hc
    · rw [List.getElem?_set_ne e] at h2
      refine (h.chs i d m h1 h2).turn ht (fun e2 => ?_) h0.noNum
      subst e2
      have hi := (List.getElem?_eq_some_iff.1 h1).1
      exact e ((List.getElem?_inj (i := j) (j := i) (by rw [← h.len]; exact hjl) h.nodup).1 (by rw [hj, h1]))
/-- A lane's channel. -/
theorem LP.lane (h : LP w g ar cs room LL) {j : Nat} {l : List Int} (hj : LL[j]? = some l) : ∃ c, cs[j]? = some c ∧ j < cs.length ∧ Ch w c room l ∧ w.cell? ⟨ar, j, none⟩ = some (.chan (some c)) := by
  have hjl : j < cs.length := by rw [← h.len]; exact (List.getElem?_eq_some_iff.1 hj).1
  have h1 : cs[j]? = some cs[j] := List.getElem?_eq_getElem hjl
  refine ⟨cs[j], h1, hjl, h.chs j _ l h1 hj, ?_⟩
  rw [h.row.cell]
  simp [hjl]
end

/-- What is in lane i, if it is one. -/
def at8 (LL : List (List Int)) (i : Int) : Option (List Int) := if 0 ≤ i then LL[i.toNat]? else none
def putF (room : Nat) (LL : List (List Int)) (i : Int) : Int := match at8 LL i with | none => 2 | some l => if l.length < room then 0 else 7
def putL (room : Nat) (LL : List (List Int)) (i x : Int) : List (List Int) := match at8 LL i with | none => LL | some l => if l.length < room then LL.set i.toNat (l ++ [x]) else LL
def fromX (LL : List (List Int)) (i : Int) : Int := match at8 LL i with | some (x :: _) => x | _ => 0
def fromB (LL : List (List Int)) (i : Int) : Bool := match at8 LL i with | some (_ :: _) => true | _ => false
def fromL (LL : List (List Int)) (i : Int) : List (List Int) := match at8 LL i with | some (_ :: r) => LL.set i.toNat r | _ => LL
def lenN (LL : List (List Int)) (i : Int) : Nat := match at8 LL i with | some l => l.length | none => 0
def drainV (LL : List (List Int)) (i : Int) : List Int := match at8 LL i with | some l => l | none => []
def drainL (LL : List (List Int)) (i : Int) : List (List Int) := match at8 LL i with | some _ => LL.set i.toNat [] | none => LL
/-- The lowest lane that has a thing. -/
def low8 : List (List Int) → Option (Nat × Int × List Int)
  | [] => none
  | [] :: t => (low8 t).map (fun p => (p.1 + 1, p.2))
  | (x :: r) :: _ => some (0, x, r)
def takeI (LL : List (List Int)) : Int := match low8 LL with | some (j, _, _) => (j : Int) | none => 0
def takeX (LL : List (List Int)) : Int := match low8 LL with | some (_, x, _) => x | none => 0
def takeB (LL : List (List Int)) : Bool := match low8 LL with | some _ => true | none => false
def takeL (LL : List (List Int)) : List (List Int) := match low8 LL with | some (j, _, r) => LL.set j r | none => LL
theorem low8_none : ∀ {LL : List (List Int)}, (∀ l ∈ LL, l = []) → low8 LL = none
  | [], _ => rfl
  | l :: t, h => by
    rw [h l (by simp)]
    simp [low8, low8_none (LL := t) (fun l hl => h l (by simp [hl]))]
theorem low8_some : ∀ {LL : List (List Int)} {j : Nat} {x : Int} {r : List Int}, LL[j]? = some (x :: r) → (∀ i, i < j → LL[i]? = some []) → low8 LL = some (j, x, r)
  | [], j, x, r, h, _ => by simp at h
  | l :: t, 0, x, r, h, _ => by
    have : l = x :: r := by simpa using h
    rw [this]
    rfl
  | l :: t, j + 1, x, r, h, h0 => by
    have e : l = [] := by simpa using h0 0 (by omega)
    rw [e]
    simp only [low8]
    rw [low8_some (LL := t) (j := j) (x := x) (r := r) (by simpa using h) (fun i hi => by simpa using h0 (i + 1) (by omega))]
    rfl
theorem at8_some {LL : List (List Int)} {j : Nat} {l : List Int} (h : LL[j]? = some l) : at8 LL (j : Int) = some l := by
  rw [at8, if_pos (by omega), Int.toNat_natCast, h]
theorem at8_cases (LL : List (List Int)) (i : Int) : (at8 LL i = none ∧ ¬ (0 ≤ i ∧ i < LL.length)) ∨ ∃ (j : Nat) (l : List Int), i = (j : Int) ∧ LL[j]? = some l ∧ at8 LL i = some l := by
  by_cases h : 0 ≤ i ∧ i < LL.length
  · obtain ⟨j, rfl⟩ := Int.eq_ofNat_of_zero_le h.1
    have hj : j < LL.length := by omega
    have h1 : LL[j]? = some LL[j] := List.getElem?_eq_getElem hj
    exact .inr ⟨j, LL[j], rfl, h1, at8_some h1⟩
  · refine .inl ⟨?_, h⟩
    unfold at8
    split
    · exact List.getElem?_eq_none (by omega)
    · rfl

end Go.Proofs.Ytemcijfakimkkaa
