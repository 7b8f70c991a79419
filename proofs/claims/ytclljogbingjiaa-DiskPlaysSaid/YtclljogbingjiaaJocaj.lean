/-
  Texts laid one behind the other: Q3u Q3u1 Q3u2 Q3u3 Q3u4 Q3u5 Q3u6 Ic.
-/
import Derived.Test.YtclljogbingjiaaJocai
import Derived.Test.YtclljogbingjiaaJocaa
import Derived.Test.YtclljogbingjiaaJocac

/-
  Stage 15, the program: values turned beside their keys; bytes with room within a block; a file in memory.
-/
namespace Go.Proofs.Ytclljogbingjiaa
open Go.RowKit

section
variable {V U : Type}
/-- Values turned, keys kept. -/
def fm15 (f : V → U) (l : List (List UInt8 × V)) : List (List UInt8 × U) := l.map fun p => (p.1, f p.2)
theorem fm_cons15 (f : V → U) (p : List UInt8 × V) (l : List (List UInt8 × V)) : fm15 f (p :: l) = (p.1, f p.2) :: fm15 f l := rfl
theorem fm_get15 (f : V → U) (k : List UInt8) : ∀ l : List (List UInt8 × V), getK ltN (fm15 f l) k = (getK ltN l k).map f
  | [] => rfl
  | p :: l => by
    rw [fm_cons15, getK_cons, getK_cons, fm_get15 f k l]
    split
    · rfl
    · split <;> rfl
theorem fm_has15 (f : V → U) (k : List UInt8) (l : List (List UInt8 × V)) : hasK ltN (fm15 f l) k = hasK ltN l k := by
  rw [has_get, has_get, fm_get15]
  cases getK ltN l k <;> rfl
theorem fm_put15 (f : V → U) (k : List UInt8) (v : V) : ∀ l : List (List UInt8 × V), fm15 f (putK ltN l k v) = putK ltN (fm15 f l) k (f v)
  | [] => rfl
  | p :: l => by
    rw [fm_cons15, putK_cons, putK_cons]
    split
    · rw [fm_cons15, fm_put15 f k v l]
    · split <;> rfl
theorem fm_drop15 (f : V → U) (k : List UInt8) : ∀ l : List (List UInt8 × V), fm15 f (dropK ltN l k) = dropK ltN (fm15 f l) k
  | [] => rfl
  | p :: l => by
    rw [fm_cons15, dropK_cons, dropK_cons]
    split
    · rw [fm_cons15, fm_drop15 f k l]
    · split <;> rfl
theorem fm_len15 (f : V → U) (l : List (List UInt8 × V)) : (fm15 f l).length = l.length := List.length_map _
theorem fm_up15 (f : V → U) {l : List (List UInt8 × V)} (h : Up ltN (fm15 f l)) : Up ltN l := fun i j a b hij ha hb =>
  h i j (a.1, f a.2) (b.1, f b.2) hij (by unfold fm15; rw [List.getElem?_map, ha]; rfl) (by unfold fm15; rw [List.getElem?_map, hb]; rfl)
theorem up_fm15 (f : V → U) {l : List (List UInt8 × V)} (h : Up ltN l) : Up ltN (fm15 f l) := fun i j a b hij ha hb => by
  unfold fm15 at ha hb
  rw [List.getElem?_map] at ha hb
  cases e1 : l[i]? with
  | none => rw [e1] at ha; cases ha
  | some p =>
    cases e2 : l[j]? with
    | none => rw [e2] at hb; cases hb
    | some q =>
      rw [e1] at ha
      rw [e2] at hb
      cases ha
      cases hb
      exact h i j p q hij e1 e2
theorem put_get15 {k : List UInt8} {v : V} : ∀ {l : List (List UInt8 × V)}, getK ltN l k = some v → putK ltN l k v = l
  | [], h => by cases h
  | p :: l, h => by
    rw [getK_cons] at h
    rw [putK_cons]
    split at h
    · rename_i h1
      rw [if_pos h1, put_get15 h]
    · rename_i h1
      rw [if_neg h1]
      split at h
      · rename_i h2
        rw [if_pos h2]
        cases h
        rw [← h2]
      · cases h
theorem drop_ne15 {k : List UInt8} : ∀ {l : List (List UInt8 × V)} (_ : Up ltN l) {q : List UInt8 × V}, q ∈ dropK ltN l k → q.1 ≠ k
  | [], _, q, h => by cases h
  | p :: l, hu, q, h => by
    obtain ⟨h1, h2⟩ := up_cons.1 hu
    rw [dropK_cons] at h
    split at h
    · rename_i h3
      rcases List.mem_cons.1 h with e | e
      · subst e
        exact fun e => by rw [e, show ltN k k = false from rises_bytes.irr k] at h3; cases h3
      · exact drop_ne15 h2 e
    · rename_i h3
      have hq : ∀ q ∈ l, ltN p.1 q.1 = true := fun q hm => by
        obtain ⟨i, hi, e⟩ := List.mem_iff_getElem.1 hm
        exact h1 i q (by rw [List.getElem?_eq_getElem hi, e])
      split at h
      · rename_i h4
        have := hq q h
        exact fun e => by rw [h4, e, show ltN k k = false from rises_bytes.irr k] at this; cases this
      · rename_i h4
        rcases List.mem_cons.1 h with e | e
        · subst e
          exact h4
        · have h5 := hq q e
          exact fun e => by rw [e] at h5; exact h3 h5
end

/-- A slice, at the head of a row of its own, with room within that row: its bytes are l. -/
def Bw15 (w : World) (v : Value) (l : List UInt8) : Prop :=
  (v = .slice none 0 0 ∧ l = []) ∨ ∃ g cap cur, v = .slice (some ⟨g, 0, none⟩) l.length cap ∧ Box w g 5 cur ∧ l.length ≤ cap ∧ cap ≤ cur.size ∧ cap ≤ maxLen ∧ cur.toList.take l.length = l.map bv
section
variable {w w' : World} {v : Value} {l : List UInt8}
theorem Bw15.nil (w : World) : Bw15 w (.slice none 0 0) [] := .inl ⟨rfl, rfl⟩
theorem Bw15.turn {S : Nat → Prop} (h : Bw15 w v l) (ht : Turn S w w') (hs : ∀ k, v.ownBlock = some k → ¬ S k) : Bw15 w' v l := by
  rcases h with h | ⟨g, cap, cur, rfl, hb, rest⟩
  · exact .inl h
  · exact .inr ⟨g, cap, cur, rfl, hb.turn ht (hs g rfl), rest⟩
theorem Bw15.lt (h : Bw15 w v l) {k : Nat} (hk : v.ownBlock = some k) : k < w.heap.size := by
  rcases h with ⟨rfl, _⟩ | ⟨g, cap, cur, rfl, hb, rest⟩
  · cases hk
  · cases hk
    exact hb.lt
theorem Bw15.typ (h : Bw15 w v l) {k : Nat} (hk : v.ownBlock = some k) : ∃ cs, Box w k 5 cs := by
  rcases h with ⟨rfl, _⟩ | ⟨g, cap, cur, rfl, hb, rest⟩
  · cases hk
  · cases hk
    exact ⟨cur, hb⟩
theorem Bw15.shape (h : Bw15 w v l) : ∃ A c, v = .slice A l.length c := by
  rcases h with ⟨rfl, rfl⟩ | ⟨g, cap, cur, rfl, _⟩
  · exact ⟨_, _, rfl⟩
  · exact ⟨_, _, rfl⟩
theorem Bw15.cells (h : Bw15 w v l) {g n c : Nat} (hv : v = .slice (some ⟨g, 0, none⟩) n c) : ∀ (j : Nat) (u : Value), (l.map bv)[j]? = some u → w.cell? ((⟨g, 0, none⟩ : Addr).add j) = some u := by
  rcases h with ⟨e, _⟩ | ⟨g', cap, cur, e, hb, h1, h2, h3, h4⟩
  · rw [e] at hv; cases hv
  · rw [e] at hv
    cases hv
    intro j u hu
    rw [← h4, List.getElem?_take] at hu
    split at hu
    · rw [show (⟨g, 0, none⟩ : Addr).add j = ⟨g, j, none⟩ by unfold Addr.add; split <;> simp_all, hb.cell]
      rw [← hu]
      simp
    · cases hu
theorem Bw15.rd (h : Bw15 w v l) : Rd w v l := by
  have hx := h
  rcases h with ⟨rfl, rfl⟩ | ⟨g, cap, cur, rfl, hb, h1, h2, h3, h4⟩
  · exact Rd.none w
  · refine ⟨_, _, rfl, ⟨h1, h3⟩, (fun e => by cases e), fun ad e j b hj => ?_⟩
    cases e
    exact hx.cells rfl j (bv b) (by rw [List.getElem?_map, hj]; rfl)
theorem Bw15.of (h : By w v l) : Bw15 w v l := by
  rcases h.form with ⟨rfl, rfl⟩ | ⟨g, cap, cur, rfl, hb, h1, h2, h3, h4⟩
  · exact .inl ⟨rfl, rfl⟩
  · exact .inr ⟨g, cap, cur, rfl, hb, h1, Nat.le_of_eq h3.symm, h2, h4⟩
/-- Cut to what is ahead, and no room kept. -/
theorem Bw15.cut (h : Bw15 w v l) {A : Option Addr} {n c : Nat} (hv : v = .slice A n c) (k : Nat) (hk : k ≤ l.length) : Bw15 w (.slice A k k) (l.take k) := by
  rcases h with ⟨e, rfl⟩ | ⟨g, cap, cur, e, hb, h1, h2, h3, h4⟩
  · rw [e] at hv
    cases hv
    obtain rfl : k = 0 := by simpa using hk
    exact .inl ⟨rfl, rfl⟩
  · rw [e] at hv
    cases hv
    have hl : (l.take k).length = k := by rw [List.length_take]; omega
    refine .inr ⟨g, k, cur, by rw [hl], hb, by omega, by omega, by omega, ?_⟩
    rw [hl, List.map_take, ← h4, List.take_take, Nat.min_eq_left hk]
end

/-- append onto bytes with room, or nil. -/
theorem run_app15 (w : World) (tx ty : TypeId) (v : Value) (l : List UInt8) (hown : Bw15 w v l) (x : Value) (news : List UInt8) (hs : Yields w tx x news) (h63 : l.length + news.length ≤ 1000000000) :
    ∃ A n' c w', (Builtin.append_ #[32, tx] ty #[v, x]).run Try.prog w = .ok (.slice A n' c) w' ∧ Bw15 w' (.slice A n' c) (l ++ news) ∧ w.grownBy w' v.ownBlock ∧
      ((Value.slice A n' c).ownBlock = v.ownBlock ∨ (Value.slice A n' c).ownBlock = some w.heap.size) := by
  obtain ⟨i, hi, hz, h1, h2⟩ := info_parts u8_info
  have ht := Try.underlying32
  unfold Yields at hs
  rw [← h1] at hs
  have hlen : ((l ++ news).map bv).length = l.length + news.length := by rw [List.length_map, List.length_append]
  have hmx : (1000000000 : Nat) ≤ maxLen := by simp only [maxLen]; omega
  rcases hown with ⟨rfl, rfl⟩ | ⟨g, cap, cur, rfl, hg, hnc, hcs, hcm, htake⟩
  · have hown : w.ownsRow 0 5 i.size (.slice none 0 0) 0 [] := World.ownsRow_nil w 0 _ _
    obtain ⟨A, n', c, w', hr, g1, g2, g3⟩ := run_app (P := Try.prog) w 32 tx ty 5 i _ ht hi hz (by rw [h1]; rfl) (.slice none 0 0) 0 _ hown x news.length _ hs (by simp at h63; omega) (by rw [h2]; simp at h63; omega)
    refine ⟨A, n', c, w', hr, Bw15.of ?_, g2, g3⟩
    unfold By
    rw [h1, Nat.zero_add] at g1
    exact g1
  · by_cases hroom : l.length + news.length ≤ cap
    · have hnl := hs.newsLen
      rw [h1, Nat.mul_one] at hnl
      have hfit : l.length + (news.map bv).length ≤ cur.size := by rw [hnl]; omega
      have hst := run_storeCells_at Try.prog g l.length 5 (news.map bv) 0 cur w hg (by simpa using hfit) hs.one
      simp only [Nat.add_zero] at hst
      have hr : (Builtin.append_ #[32, tx] ty #[.slice (some ⟨g, 0, none⟩) l.length cap, x]).run Try.prog w =
          .ok (.slice (some ⟨g, 0, none⟩) (l.length + news.length) cap) (w.setRow g (cur.toList.take l.length ++ (news.map bv) ++ cur.toList.drop (l.length + (news.map bv).length)).toArray) := by
        rw [h1] at hs
        have hi1 : (Try.prog.info? 5).map (·.size) = some 1 := u8_size
        rw [hi] at hi1
        simp only [Option.map_some, Option.some.injEq] at hi1
        rcases hs.kind with ⟨e', hk⟩ | hk <;> simp [Builtin.append_, run_underlying ht, run_underlying hk, sizeOf, typeInfo, hi, hi1, hs.len, hs.cells, hroom, Addr.add_lit, hst]
      refine ⟨_, _, _, _, hr, .inr ⟨g, cap, _, by rw [List.length_append], setRow_heap w g cur _ 5 _ hg, by rw [List.length_append]; exact hroom, ?_, hcm, ?_⟩, ⟨rfl, rfl, rfl, by simp, fun k _ hk => setRow_other w g k _ (fun e => hk (by simp [Value.ownBlock, e]))⟩, .inl rfl⟩
      · simp only [List.size_toArray, List.length_append, List.length_take, List.length_drop, Array.length_toList]
        omega
      · rw [htake, ← List.map_append, List.length_append, ← hlen]
        exact List.take_left
    · have hold : (Builtin.firstCells i.size l.length (.slice (some ⟨g, 0, none⟩) l.length cap)).run Try.prog w.drew = .ok (l.map bv).toArray w.drew :=
        run_firstCells_some (P := Try.prog) w.drew i.size l.length ⟨g, 0, none⟩ l.length cap (l.map bv) (by rw [h1, List.length_map, Nat.mul_one])
          (by
            have hb : Bw15 w.drew (.slice (some ⟨g, 0, none⟩) l.length cap) l := Bw15.turn (.inr ⟨g, cap, cur, rfl, hg, hnc, hcs, hcm, htake⟩) ((Turn.refl (fun _ => False) w).drew) (fun _ _ f => f)
            exact hb.cells rfl)
      have hr := run_append_grow_src (P := Try.prog) w 32 tx ty 5 i _ ht hi hz (some ⟨g, 0, none⟩) l.length cap (l.map bv) hold x news.length _ hs (by omega) (by omega) (growslice_fits (by omega) (by rw [h2]; omega))
      have hge := grownCap_ge w (l.length + news.length) cap 5
      have hgm := grownCap_le_maxLen w (l.length + news.length) cap 5 (by omega)
      have hzs : (Value.cells (.int .u8 0)).size = 1 := rfl
      refine ⟨_, _, _, _, hr, .inr ⟨w.heap.size, _, _, by rw [List.length_append], heap_alloc_new w.drew _, by rw [List.length_append]; exact hge, ?_, hgm, ?_⟩, ⟨rfl, rfl, rfl, by simp, fun k hk _ => Below.heap_alloc w.drew _ k hk⟩, .inr rfl⟩
      · rw [← List.map_append, Array.size_append, size_zeroCells, hzs, List.size_toArray, hlen]
        omega
      · rw [← List.map_append, Array.toList_append, List.length_append, ← hlen]
        exact List.take_left

/-- append onto bytes with room: at the operation, for the walk. -/
theorem wpList_app15 (w : World) {ops : Array Oper} {rest : List Oper} {o : Oper} {a : Act} {Q : Exit → Act → World → Prop} (hgd : o.guard = none) (s x : Operand) (tx : TypeId)
    (ho : o.op = .call { callee := .builtin .append, args := #[s, x], argTypes := #[32, tx] }) (v : Value) (l : List UInt8) (hs : a.eval s = v) (hown : Bw15 w v l)
    (y : Value) (hx : a.eval x = y) (news : List UInt8) (hy : Yields w tx y news) (hl : l.length + news.length ≤ 1000000000)
    (h : ∀ A n c w', Bw15 w' (.slice A n c) (l ++ news) → w.grownBy w' v.ownBlock → ((Value.slice A n c).ownBlock = v.ownBlock ∨ (Value.slice A n c).ownBlock = some w.heap.size) → wpList Try.prog ops Q rest (a.put o.dst (.slice A n c)) w') :
    wpList Try.prog ops Q (o :: rest) a w := by
  refine wpList_plain hgd fun K hK => ?_
  obtain ⟨A, n, c, w', hr, g1, g2, g3⟩ := run_app15 w tx o.type v l hown y news hy hl
  unfold Oper.wp execOp
  simp only [ho, resolve, invoke, builtin, Sem.run_bind, Sem.run_pure, Result.andThen_ok, List.map_toArray, List.map_cons, List.map_nil, hs, hx, hr]
  exact hK _ _ (h A n c w' g1 g2 g3)

end Go.Proofs.Ytclljogbingjiaa

/-
  Stage 15, the program's disk in memory: its map, its files' boxes, their rows, each apart from the others.
-/
namespace Go.Proofs.Ytclljogbingjiaa
open Go.RowKit

/-- A file of the program: its block, its slice, what it is. -/
structure PF15 where
  b : Nat
  sl : Value
  f : FB15
def PF15.at (p : PF15) : Option Addr := some ⟨p.b, 0, none⟩
abbrev PM15 := List (List UInt8 × PF15)
structure FA15 (w : World) (p : PF15) : Prop where
  box : Box w p.b 67 #[p.sl, .int .i64 (p.f.2 : Int)]
  row : Bw15 w p.sl p.f.1
theorem FA15.turn {S : Nat → Prop} {w w' : World} {p : PF15} (h : FA15 w p) (ht : Turn S w w') (h1 : ¬ S p.b) (h2 : ∀ k, p.sl.ownBlock = some k → ¬ S k) : FA15 w' p := ⟨h.box.turn ht h1, h.row.turn ht h2⟩

/-- The disk at block g. -/
structure PD15 (w : World) (g : Nat) (M : PM15) (left : Int) (down : Bool) : Prop where
  map : omp.MP w g (.int .i64 left) (.bool down) (fm15 PF15.at M)
  files : ∀ q ∈ M, FA15 w q.2
  apart : ∀ q ∈ M, ∀ r ∈ M, q.1 ≠ r.1 → q.2.b ≠ r.2.b ∧ ∀ k, q.2.sl.ownBlock = some k → r.2.sl.ownBlock ≠ some k
/-- A block of the file. -/
def PF15.has (p : PF15) (k : Nat) : Prop := p.b = k ∨ p.sl.ownBlock = some k
/-- The blocks that a disk changes. -/
def Foot15 (g : Nat) (M : PM15) (k : Nat) : Prop := k = g ∨ ∃ q ∈ M, q.2.has k

section
variable {w w' : World} {g : Nat} {M : PM15} {left : Int} {down : Bool}
theorem PD15.up (h : PD15 w g M left down) : Up ltN M := fm_up15 _ h.map.up
theorem PD15.box (h : PD15 w g M left down) : ∃ A : Option Addr, Box w g 59 #[.pointer A, .int .i64 left, .bool down] := by
  obtain ⟨x, A, hb, _⟩ := h.map.out
  exact ⟨A, hb⟩
theorem FA15.lt {p : PF15} (h : FA15 w p) {k : Nat} (hk : p.has k) : k < w.heap.size := by
  rcases hk with rfl | e
  · exact h.box.lt
  · exact h.row.lt e
theorem box_typ15 {k : Nat} {t t' : TypeId} {cs cs' : Array Value} (h : Box w k t cs) (h' : Box w k t' cs') : t = t' := by
  have e := (show w.heap[k]? = _ from h).symm.trans h'
  injection e with e
  injection e with _ e
theorem FA15.typ {p : PF15} (h : FA15 w p) {k : Nat} (hk : p.has k) : ∃ cs, Box w k 67 cs ∨ Box w k 5 cs := by
  rcases hk with rfl | e
  · exact ⟨_, .inl h.box⟩
  · obtain ⟨cs, hb⟩ := h.row.typ e
    exact ⟨cs, .inr hb⟩
theorem FA15.ne_disk {p : PF15} (h : FA15 w p) {k : Nat} (hk : p.has k) {cs : Array Value} (hb : Box w g 59 cs) : k ≠ g := by
  intro e
  subst e
  obtain ⟨cs', h1 | h1⟩ := h.typ hk
  · exact absurd (box_typ15 h1 hb) (by decide)
  · exact absurd (box_typ15 h1 hb) (by decide)
theorem PD15.lt (h : PD15 w g M left down) {k : Nat} (hk : Foot15 g M k) : k < w.heap.size := by
  rcases hk with rfl | ⟨q, hq, e⟩
  · obtain ⟨A, hb⟩ := h.box
    exact hb.lt
  · exact (h.files q hq).lt e
theorem PD15.typ (h : PD15 w g M left down) {k : Nat} (hk : Foot15 g M k) : ∃ cs, Box w k 59 cs ∨ Box w k 67 cs ∨ Box w k 5 cs := by
  rcases hk with rfl | ⟨q, hq, e⟩
  · obtain ⟨A, hb⟩ := h.box
    exact ⟨_, .inl hb⟩
  · obtain ⟨cs, e⟩ := (h.files q hq).typ e
    exact ⟨cs, .inr e⟩
theorem PD15.not_node (h : PD15 w g M left down) {k : Nat} (hk : Foot15 g M k) {cs : Array Value} (hb : Box w k 93 cs) : False := by
  obtain ⟨cs', h1 | h1 | h1⟩ := h.typ hk
  · exact absurd (box_typ15 h1 hb) (by decide)
  · exact absurd (box_typ15 h1 hb) (by decide)
  · exact absurd (box_typ15 h1 hb) (by decide)
theorem PD15.turn {S : Nat → Prop} (h : PD15 w g M left down) (ht : Turn S w w') (h1 : ∀ k, Foot15 g M k → ¬ S k) (h2 : ∀ i cs, Box w i 93 cs → ¬ S i) : PD15 w' g M left down :=
  ⟨h.map.turn ht (h1 g (.inl rfl)) h2, fun q hq => (h.files q hq).turn ht (h1 _ (.inr ⟨q, hq, .inl rfl⟩)) (fun k e => h1 k (.inr ⟨q, hq, .inr e⟩)), h.apart⟩
theorem PD15.later (h : PD15 w g M left down) (ht : Turn (fun _ => False) w w') : PD15 w' g M left down := h.turn ht (fun _ _ f => f) (fun _ _ _ f => f)
theorem PD15.get (h : PD15 w g M left down) {n : List UInt8} {p : PF15} (hp : getK ltN M n = some p) : FA15 w p := h.files _ (get_mem15 hp)
/-- Another file's blocks. -/
theorem PD15.other (h : PD15 w g M left down) {n : List UInt8} {p : PF15} (hp : (n, p) ∈ M) {q : List UInt8 × PF15} (hq : q ∈ M) (hn : q.1 ≠ n) {k : Nat} (hk : q.2.has k) : ¬ p.has k := by
  have h1 := h.apart _ hp q hq (fun e => hn e.symm)
  have fp := h.files _ hp
  have fq := h.files q hq
  intro hk'
  rcases hk with e | e <;> rcases hk' with e' | e'
  · exact h1.1 (e'.trans e.symm)
  · obtain ⟨cs, hb⟩ := fp.row.typ e'
    subst e
    exact absurd (box_typ15 hb fq.box) (by decide)
  · obtain ⟨cs, hb⟩ := fq.row.typ e
    subst e'
    exact absurd (box_typ15 hb fp.box) (by decide)
  · exact h1.2 k e' e
/-- A file's blocks turned, or the disk's, or new ones: all others stay. -/
theorem PD15.put {S : Nat → Prop} {left' : Int} {down' : Bool} {n : List UInt8} {p' : PF15} (h : PD15 w g M left down) (ht : Turn S w w') (hm : omp.MP w' g (.int .i64 left') (.bool down') (fm15 PF15.at (putK ltN M n p'))) (hp : FA15 w' p')
    (hS : ∀ q ∈ M, q.1 ≠ n → ∀ k, q.2.has k → ¬ S k) (hN : ∀ q ∈ M, q.1 ≠ n → ∀ k, q.2.has k → ¬ p'.has k) : PD15 w' g (putK ltN M n p') left' down' := by
  refine ⟨hm, fun q hq => ?_, fun q hq r hr hne => ?_⟩
  · rcases (put_mem rises_bytes h.up).1 hq with e | ⟨e, hn⟩
    · subst e; exact hp
    · exact (h.files q e).turn ht (hS q e hn _ (.inl rfl)) (fun k hk => hS q e hn k (.inr hk))
  · rcases (put_mem rises_bytes h.up).1 hq with e | ⟨e, hn⟩ <;> rcases (put_mem rises_bytes h.up).1 hr with e' | ⟨e', hn'⟩
    · subst e; subst e'; exact absurd rfl hne
    · subst e
      exact ⟨fun e2 => hN r e' hn' _ (.inl e2.symm) (.inl rfl), fun k hk e2 => hN r e' hn' k (.inr e2) (.inr hk)⟩
    · subst e'
      exact ⟨fun e2 => hN q e hn _ (.inl e2) (.inl rfl), fun k hk e2 => hN q e hn k (.inr hk) (.inr e2)⟩
    · exact h.apart q e r e' hne
/-- What holds of all others where n's own blocks, the disk's, or new ones turn. -/
def Mine15 (w : World) (M : PM15) (n : List UInt8) (k : Nat) : Prop := (∃ p, getK ltN M n = some p ∧ p.has k) ∨ w.heap.size ≤ k
theorem PD15.others (h : PD15 w g M left down) {n : List UInt8} {q : List UInt8 × PF15} (hq : q ∈ M) (hn : q.1 ≠ n) {k : Nat} (hk : q.2.has k) : ¬ Mine15 w M n k ∧ k ≠ g := by
  obtain ⟨A, hb⟩ := h.box
  refine ⟨fun hm => ?_, (h.files q hq).ne_disk hk hb⟩
  rcases hm with ⟨p, hp, e⟩ | e
  · exact h.other (get_mem15 hp) hq hn hk e
  · have := (h.files q hq).lt hk
    omega
theorem PD15.mine {S : Nat → Prop} {left' : Int} {down' : Bool} {n : List UInt8} {p' : PF15} (h : PD15 w g M left down) (ht : Turn S w w') (hm : omp.MP w' g (.int .i64 left') (.bool down') (fm15 PF15.at (putK ltN M n p'))) (hp : FA15 w' p')
    (hS : ∀ k, k < w.heap.size → S k → k = g ∨ Mine15 w M n k) (hN : ∀ k, p'.has k → Mine15 w M n k) : PD15 w' g (putK ltN M n p') left' down' :=
  h.put ht hm hp (fun q hq hn k hk hs => by
    obtain ⟨h1, h2⟩ := h.others hq hn hk
    rcases hS k ((h.files q hq).lt hk) hs with e | e
    · exact h2 e
    · exact h1 e) (fun q hq hn k hk e => (h.others hq hn hk).1 (hN k e))
theorem PD15.drop {S : Nat → Prop} {left' : Int} {down' : Bool} {n : List UInt8} (h : PD15 w g M left down) (ht : Turn S w w') (hS : ∀ k, S k → k = g) (hm : omp.MP w' g (.int .i64 left') (.bool down') (fm15 PF15.at (dropK ltN M n))) : PD15 w' g (dropK ltN M n) left' down' := by
  obtain ⟨A, hb⟩ := h.box
  exact ⟨hm, fun q hq => (h.files q (drop_sub15 hq)).turn ht (fun e => (h.files q (drop_sub15 hq)).ne_disk (.inl rfl) hb (hS _ e)) (fun k hk e => (h.files q (drop_sub15 hq)).ne_disk (.inr hk) hb (hS _ e)),
    fun q hq r hr => h.apart q (drop_sub15 hq) r (drop_sub15 hr)⟩
/-- The disk's own cells turned; the root stays. -/
theorem PD15.root (h : PD15 w g M left down) : ∃ A : Option Addr, Box w g 59 #[.pointer A, .int .i64 left, .bool down] ∧ ∀ (S : Nat → Prop) (w' : World) (left' : Int) (down' : Bool), Turn S w w' → (∀ k, S k → k = g) →
    Box w' g 59 #[.pointer A, .int .i64 left', .bool down'] → PD15 w' g M left' down' := by
  obtain ⟨x, A, hb, hx, e⟩ := h.map.out
  refine ⟨A, hb, fun S w' left' down' ht hS hb' => ⟨⟨⟨x, A, hb', hx.turn ht (fun i cs hi e => h.not_node (.inl (hS i e)) hi), e⟩, h.map.up⟩, fun q hq => (h.files q hq).turn ht (fun e => (h.files q hq).ne_disk (.inl rfl) hb (hS _ e)) (fun k hk e => (h.files q hq).ne_disk (.inr hk) hb (hS _ e)), h.apart⟩⟩
end

/-- The program's disk. -/
def DM15 (w : World) (F : Nat → Prop) (g : Nat) (d : D15) : Prop := ∃ M : PM15, F = Foot15 g M ∧ PD15 w g M d.left d.down ∧ fm15 PF15.f M = d.l
theorem dm_lt15 {w : World} {F : Nat → Prop} {g : Nat} {d : D15} (h : DM15 w F g d) : ∀ k, F k → k < w.heap.size := by
  obtain ⟨M, rfl, h, _⟩ := h
  exact fun k hk => h.lt hk
theorem dm_later15 {w w' : World} {F : Nat → Prop} {g : Nat} {d : D15} (h : DM15 w F g d) (ht : Turn (fun _ => False) w w') : DM15 w' F g d := by
  obtain ⟨M, e, h, e2⟩ := h
  exact ⟨M, e, h.later ht, e2⟩
theorem dm_apart15 {w w' : World} {F : Nat → Prop} {g : Nat} {d : D15} {r : Nat} {cs : Array Value} (h : DM15 w F g d) (ht : Turn (fun k => k = r) w w') (hr : ¬ F r) (hb : Box w r 30 cs) : DM15 w' F g d := by
  obtain ⟨M, rfl, h, e2⟩ := h
  exact ⟨M, rfl, h.turn ht (fun k hk e => hr (by rw [← e]; exact hk)) (fun i cs' hi e => by subst e; exact absurd (box_typ15 hi hb) (by decide)), e2⟩

end Go.Proofs.Ytclljogbingjiaa

/-
  Stage 15, the program: refuses, named, find, open, count.
-/
namespace Go.Proofs.Ytclljogbingjiaa
open Go.RowKit

set_option maxRecDepth 100000

def ref15 (down : Bool) : Int := if down then 13 else 0
theorem refuses_any15 {w : World} {g : Nat} {A l : Value} {down : Bool} (hb : Box w g 59 #[A, l, .bool down]) :
    Calls Try.prog 40 #[.pointer (some ⟨g, 0, none⟩)] w fun e w' => e = .returned (.int .i64 (ref15 down)) ∧ w = w' := by
  have c2 := hb.cell 2
  clear hb
  cases down with
  | true =>
    go_enter Try.func40, Try.ntmps40
    go_wp2
    go_ret
    exact ⟨rfl, rfl⟩
  | false =>
    go_enter Try.func40, Try.ntmps40
    go_wp2
    go_ret
    exact ⟨rfl, rfl⟩
theorem refuses_nil15 (w : World) : Calls Try.prog 40 #[.pointer none] w fun e w' => e = .returned (.int .i64 1) ∧ w = w' := by
  go_enter Try.func40, Try.ntmps40
  go_wp2
  go_ret
  exact ⟨rfl, rfl⟩
theorem named_any15 (n : List UInt8) (w : World) : Calls Try.prog 41 #[sv15 n] w fun e w' => e = .returned (.bool (named15 n)) ∧ w = w' := by
  have hsz : ByteArray.size ⟨n.toArray⟩ = n.length := rfl
  have HN : Hid (named15 n = (decide (1 ≤ n.length) && decide (n.length ≤ 40))) := rfl
  by_cases h1 : 1 ≤ n.length
  · by_cases h2 : n.length ≤ 40
    · have HB : Hid (named15 n = true) := by show _ = _; rw [HN.out]; simp [h1, h2]
      go_enter Try.func41, Try.ntmps41
      go_wp2
      go_ret
      exact ⟨by rw [HB.out]; exact ret_bool (decide_eq_true (by omega)), rfl⟩
    · have HB : Hid (named15 n = false) := by show _ = _; rw [HN.out]; simp [h2]
      have h3 : 40 < n.length := by omega
      clear h2
      go_enter Try.func41, Try.ntmps41
      go_wp2
      go_ret
      exact ⟨by rw [HB.out]; exact ret_bool (decide_eq_false (by omega)), rfl⟩
  · have HB : Hid (named15 n = false) := by show _ = _; rw [HN.out]; simp [h1]
    have h3 : n.length < 1 := by omega
    clear h1
    go_enter Try.func41, Try.ntmps41
    go_wp2
    go_ret
    exact ⟨by rw [HB.out]; rfl, rfl⟩

/-- Where the file of that name lies, if there is one. -/
def fp15 (M : PM15) (n : List UInt8) : Option Addr := (getK ltN M n).bind PF15.at
theorem find_any15 (n : List UInt8) {w : World} {g : Nat} {M : PM15} {left : Int} {down : Bool} (h : PD15 w g M left down) :
    Calls Try.prog 36 #[.pointer (some ⟨g, 0, none⟩), sv15 n] w fun e w' => e = .returned (.pointer (fp15 M n)) ∧ Turn (fun _ => False) w w' := by
  have HG := Lib.hid (omp.get_any n h.map)
  have HF : Hid (getK ltN (fm15 PF15.at M) n = (getK ltN M n).map PF15.at) := fm_get15 _ _ _
  have HP : Hid (fp15 M n = (getK ltN M n).bind PF15.at) := rfl
  rw [HF.out] at HG
  cases hk : getK ltN M n with
  | none =>
    rw [hk] at HG HP
    clear hk h HF
    go_enter Try.func36, Try.ntmps36
    go_wp2_with (go_at_call 58; refine (HG.out).mono ?_; rintro e w' ⟨rfl, ht⟩; have HT := Lib.hid ht; clear ht; unfold Option.map omp.getA; dsimp only)
    go_ret
    exact ⟨by rw [HP.out]; rfl, HT.out⟩
  | some p =>
    rw [hk] at HG HP
    clear hk h HF
    go_enter Try.func36, Try.ntmps36
    go_wp2_with (go_at_call 58; refine (HG.out).mono ?_; rintro e w' ⟨rfl, ht⟩; have HT := Lib.hid ht; clear ht; unfold Option.map omp.getA; dsimp only)
    go_ret
    exact ⟨by rw [HP.out]; rfl, HT.out⟩
theorem find_nil15 (n : List UInt8) (w : World) : Calls Try.prog 36 #[.pointer none, sv15 n] w fun e w' => e = .returned (.pointer none) ∧ w = w' := by
  go_enter Try.func36, Try.ntmps36
  go_wp2
  go_ret
  exact ⟨rfl, rfl⟩

/-- What open answers. -/
def openA15 (M : PM15) (down : Bool) (n : List UInt8) : Value :=
  if down then .tuple #[.pointer none, .int .i64 13] else match getK ltN M n with
  | none => .tuple #[.pointer none, .int .i64 11]
  | some p => .tuple #[.pointer p.at, .int .i64 0]
theorem open_any15 (n : List UInt8) {w : World} {g : Nat} {M : PM15} {left : Int} {down : Bool} (h : PD15 w g M left down) :
    Calls Try.prog 45 #[.pointer (some ⟨g, 0, none⟩), sv15 n] w fun e w' => e = .returned (openA15 M down n) ∧ Turn (fun _ => False) w w' := by
  obtain ⟨A, hb⟩ := h.box
  have HR := Lib.hid (refuses_any15 hb)
  have HF := Lib.hid (find_any15 n h)
  have HP : Hid (fp15 M n = (getK ltN M n).bind PF15.at) := rfl
  have HO : Hid (∀ x, getK ltN M n = x → openA15 M down n = (if down then .tuple #[.pointer none, .int .i64 13] else match x with
    | none => .tuple #[.pointer none, .int .i64 11]
    | some p => .tuple #[.pointer p.at, .int .i64 0])) := by intro x hx; subst hx; rfl
  clear h hb
  cases down with
  | true =>
    unfold ref15 at HR
    go_enter Try.func45, Try.ntmps45
    go_wp2_with (go_at_call 40; refine (HR.out).mono ?_; rintro e w' ⟨rfl, rfl⟩)
    go_ret2
    exact ⟨by rw [HO.out _ rfl]; rfl, Turn.refl _ _⟩
  | false =>
    unfold ref15 at HR
    cases hk : getK ltN M n with
    | none =>
      have HO2 := Lib.hid (HO.out _ hk)
      rw [hk] at HP
      have e1 := HP.out
      rw [e1] at HF
      clear hk HO e1 HP
      unfold Option.bind at HF
      go_enter Try.func45, Try.ntmps45
      go_wp2_with (first | (go_at_call 40; refine (HR.out).mono ?_; rintro e w' ⟨rfl, rfl⟩) | (go_at_call 36; refine (HF.out).mono ?_; rintro e w' ⟨rfl, ht⟩; have HT := Lib.hid ht; clear ht) | fail)
      go_ret2
      exact ⟨by rw [HO2.out]; rfl, HT.out⟩
    | some p =>
      have HO2 := Lib.hid (HO.out _ hk)
      rw [hk] at HP
      have e1 := HP.out
      rw [e1] at HF
      clear hk HO e1 HP
      unfold Option.bind PF15.at at HF
      go_enter Try.func45, Try.ntmps45
      go_wp2_with (first | (go_at_call 40; refine (HR.out).mono ?_; rintro e w' ⟨rfl, rfl⟩) | (go_at_call 36; refine (HF.out).mono ?_; rintro e w' ⟨rfl, ht⟩; have HT := Lib.hid ht; clear ht) | fail)
      go_ret2
      exact ⟨by rw [HO2.out]; rfl, HT.out⟩
theorem open_nil15 (n : List UInt8) (w : World) : Calls Try.prog 45 #[.pointer none, sv15 n] w fun e w' => e = .returned (.tuple #[.pointer none, .int .i64 1]) ∧ w = w' := by
  go_enter Try.func45, Try.ntmps45
  go_wp2_with (go_at_call 40; refine (refuses_nil15 _).mono ?_; rintro e w' ⟨rfl, rfl⟩)
  go_ret2
  exact ⟨rfl, rfl⟩

/-- Behind count: the disk went down at it, or what was to be done is done. -/
def Counted15 (w : World) (g : Nat) (A : Value) (left : Int) (Q : World → Prop) (e : Ending) (w' : World) : Prop :=
  (left = 1 ∧ e = .returned (.int .i64 13) ∧ Box w' g 59 #[A, .int .i64 0, .bool true] ∧ Turn (fun k => k = g) w w') ∨ (left ≠ 1 ∧ e = .returned (.int .i64 0) ∧ Q w')
set_option maxHeartbeats 4000000 in
theorem count_any15 (fa : Nat) (caps : Array Value) (he : ∀ args w, (callFunc fa args).run Try.prog w = .ok (.enter fa args) w) {w : World} {g : Nat} {A : Option Addr} {left : Int} (hb : Box w g 59 #[.pointer A, .int .i64 left, .bool false])
    (hl : 0 ≤ left ∧ left ≤ 9223372036854775807) (Q : World → Prop) (hq : ∀ W, left ≠ 1 → Turn (fun k => k = g) w W → Box W g 59 #[.pointer A, .int .i64 (if left = 0 then 0 else left - 1), .bool false] → Calls Try.prog fa caps W fun e w' => e = .returned (.tuple #[]) ∧ Q w') :
    Calls Try.prog 43 #[.pointer (some ⟨g, 0, none⟩), .func (.func fa) #[] caps] w fun e w' => Counted15 w g (.pointer A) left Q e w' := by
  have c1 := hb.cell 1
  have c2 := hb.cell 2
  have f1 := hb.free 1
  have f2 := hb.free 2
  have HQ := Lib.hid hq
  have HB := Lib.hid hb
  clear hq hb
  by_cases h0 : left = 0
  · have HX := Lib.hid (HQ.out w (by rw [h0]; decide) (Turn.refl _ _) (by rw [if_pos h0]; rw [h0] at HB; exact HB.out))
    have HL : Hid (left ≠ 1) := by intro e; rw [h0] at e; cases e
    subst h0
    clear HQ hl
    go_enter Try.func43, Try.ntmps43
    go_wp2_with fail
    refine HX.out.mono ?_
    rintro e w' ⟨rfl, hQ⟩
    have HQ := Lib.hid hQ
    clear hQ
    go_wp2
    go_ret
    exact .inr ⟨HL.out, rfl, HQ.out⟩
  · have hpos : 0 < left := by omega
    have HWR : Hid (IntKind.i64.wrap (left - 1) = left - 1) := IntWalk.i64_in _ (by omega)
    have hb1 := HB.out.set 1 (.int .i64 (left - 1))
    simp only [List.setIfInBounds_toArray, List.set_cons_succ, List.set_cons_zero] at hb1
    have ht1 := (Turn.refl (fun k => k = g) w).setCell (p := ⟨g, 1, none⟩) (fun _ => rfl) (.int .i64 (left - 1))
    by_cases h1 : left = 1
    · subst h1
      have hb2 := hb1.set 2 (.bool true)
      simp only [List.setIfInBounds_toArray, List.set_cons_succ, List.set_cons_zero] at hb2
      have HB2 := Lib.hid hb2
      have HT2 : Hid _ := ht1.setCell (p := ⟨g, 2, none⟩) (fun _ => rfl) (.bool true)
      clear hb1 ht1 hb2 HQ hl h0 HWR
      go_enter Try.func43, Try.ntmps43
      go_wp2
      go_ret
      exact .inl ⟨rfl, rfl, HB2.out, HT2.out⟩
    · have hb2 := hb1.set 2 (.bool false)
      simp only [List.setIfInBounds_toArray, List.set_cons_succ, List.set_cons_zero] at hb2
      have ht2 := ht1.setCell (p := ⟨g, 2, none⟩) (fun _ => rfl) (.bool false)
      have HX := Lib.hid (HQ.out _ h1 ht2 (by rw [if_neg h0]; exact hb2))
      have HL : Hid (left ≠ 1) := h1
      have hwr := HWR.out
      have hz : ¬ (left - 1 = 0) := by omega
      clear hb1 ht1 hb2 ht2 HQ hl h0 h1 HWR
      go_enter Try.func43, Try.ntmps43
      go_wp2_with fail
      refine HX.out.mono ?_
      rintro e w' ⟨rfl, hQ⟩
      have HQ := Lib.hid hQ
      clear hQ
      go_wp2
      go_ret
      exact .inr ⟨HL.out, rfl, HQ.out⟩

end Go.Proofs.Ytclljogbingjiaa

/-
  Stage 15, the program: New, Down, Has, Loose, Arm, Read.
-/
namespace Go.Proofs.Ytclljogbingjiaa
open Go.RowKit

set_option maxRecDepth 100000

theorem openA_none15 {M : PM15} {n : List UInt8} (h : getK ltN M n = none) : openA15 M false n = .tuple #[.pointer none, .int .i64 11] := by unfold openA15; rw [h]; rfl
theorem openA_some15 {M : PM15} {n : List UInt8} {p : PF15} (h : getK ltN M n = some p) : openA15 M false n = .tuple #[.pointer (some ⟨p.b, 0, none⟩), .int .i64 0] := by unfold openA15; rw [h]; rfl
theorem openA_down15 {M : PM15} {n : List UInt8} : openA15 M true n = .tuple #[.pointer none, .int .i64 13] := rfl
theorem does_stay15 {w w' : World} {F : Nat → Prop} {g : Nat} {d : D15} (h : DM15 w F g d) (ht : Turn (fun _ => False) w w') : ∃ F', DM15 w' F' g d ∧ Turn F w w' ∧ ∀ k, F' k → F k ∨ w.heap.size ≤ k :=
  ⟨F, dm_later15 h ht, ht.mono (fun _ _ f => f.elim), fun _ h => .inl h⟩

theorem new_any15 (w : World) : Calls Try.prog 9 #[] w fun e w' => NewP15 DM15 w e w' := by
  go_enter Try.func9, Try.ntmps9
  go_wp2
  go_ret
  refine ⟨w.heap.size, Foot15 w.heap.size [], rfl, ⟨[], rfl, ⟨⟨⟨.nil, none, Box.new w _ _, rfl, rfl⟩, up_nil⟩, fun _ h => (by cases h), fun _ h => (by cases h)⟩, rfl⟩, (Turn.refl _ w).alloc _, ?_⟩
  rintro k (rfl | ⟨_, h, _⟩)
  · exact Nat.le_refl _
  · cases h

theorem down_any15 {w : World} {F : Nat → Prop} {g : Nat} {d : D15} (hm : DM15 w F g d) : Calls Try.prog 11 #[.pointer (some ⟨g, 0, none⟩)] w fun e w' => SaysP15 w (.bool d.down) e w' := by
  obtain ⟨M, rfl, h, e⟩ := hm
  obtain ⟨A, hb⟩ := h.box
  have c2 := hb.cell 2
  clear h hb e
  go_enter Try.func11, Try.ntmps11
  go_wp2
  go_ret
  exact ⟨rfl, Turn.refl _ _⟩

theorem fp_has15 {M : PM15} {n : List UInt8} : (hasK ltN M n = true ∧ ∃ p, getK ltN M n = some p ∧ fp15 M n = some ⟨p.b, 0, none⟩) ∨ (hasK ltN M n = false ∧ getK ltN M n = none ∧ fp15 M n = none) := by
  rw [has_get]
  unfold fp15
  cases getK ltN M n with
  | none => exact .inr ⟨rfl, rfl, rfl⟩
  | some p => exact .inl ⟨rfl, p, rfl, rfl⟩
theorem has_any15 (n : List UInt8) {w : World} {F : Nat → Prop} {g : Nat} {d : D15} (hm : DM15 w F g d) : Calls Try.prog 14 #[.pointer (some ⟨g, 0, none⟩), sv15 n] w fun e w' => SaysP15 w (.bool (hasK ltN d.l n)) e w' := by
  obtain ⟨M, rfl, h, e⟩ := hm
  have HF := Lib.hid (find_any15 n h)
  rw [← e, fm_has15]
  clear e h
  rcases fp_has15 (M := M) (n := n) with ⟨hh, p, hp, hf⟩ | ⟨hh, hp, hf⟩
  · rw [hf] at HF
    rw [hh]
    clear hh hp hf
    go_enter Try.func14, Try.ntmps14
    go_wp2_with (go_at_call 36; refine (HF.out).mono ?_; rintro e w' ⟨rfl, ht⟩; have HT := Lib.hid ht; clear ht)
    go_ret
    exact ⟨rfl, HT.out⟩
  · rw [hf] at HF
    rw [hh]
    clear hh hp hf
    go_enter Try.func14, Try.ntmps14
    go_wp2_with (go_at_call 36; refine (HF.out).mono ?_; rintro e w' ⟨rfl, ht⟩; have HT := Lib.hid ht; clear ht)
    go_ret
    exact ⟨rfl, HT.out⟩

theorem floose_any15 {w : World} {p : PF15} (h : FA15 w p) (hf : p.f.2 ≤ p.f.1.length) (hl : p.f.1.length ≤ 4194304) :
    Calls Try.prog 38 #[.pointer (some ⟨p.b, 0, none⟩)] w fun e w' => e = .returned (.int .i64 ((p.f.1.length : Int) - (p.f.2 : Int))) ∧ ∃ k, w' = w.drewN k := by
  obtain ⟨A, c, hs⟩ := h.row.shape
  have hb := h.box
  rw [hs] at hb
  have c0 := hb.cell 0
  have c1 := hb.cell 1
  have HWR : Hid (IntKind.i64.wrap ((p.f.1.length : Int) - (p.f.2 : Int)) = (p.f.1.length : Int) - (p.f.2 : Int)) := IntWalk.i64_in _ (by omega)
  have hwr := HWR.out
  generalize p.f.1.length = N at *
  generalize p.f.2 = K at *
  generalize p.b = b at *
  clear h hb hs hf
  go_enter Try.func38, Try.ntmps38
  go_wp2_with fail
  go_quiet (fail)
  go_wp2
  go_ret
  exact ⟨rfl, _, rfl⟩

theorem file_none15 {d : D15} {n : List UInt8} (h : getK ltN d.l n = none) : file15 d n = ([], 0) := by unfold file15; rw [h]; rfl
theorem file_some15 {d : D15} {n : List UInt8} {f : FB15} (h : getK ltN d.l n = some f) : file15 d n = f := by unfold file15; rw [h]; rfl
theorem loose_any15 (n : List UInt8) {w : World} {F : Nat → Prop} {g : Nat} {d : D15} (hm : DM15 w F g d) (hbd : BdP15 d) : Calls Try.prog 16 #[.pointer (some ⟨g, 0, none⟩), sv15 n] w fun e w' => SaysP15 w (.int .i64 (loose15 d n)) e w' := by
  obtain ⟨M, rfl, h, e⟩ := hm
  have HF := Lib.hid (find_any15 n h)
  have hk : getK ltN d.l n = (getK ltN M n).map PF15.f := by rw [← e]; exact fm_get15 _ _ _
  rcases fp_has15 (M := M) (n := n) with ⟨hh, p, hp, hf⟩ | ⟨hh, hp, hf⟩
  · rw [hf] at HF
    rw [hp] at hk
    obtain ⟨h1, h2⟩ := hbd.ok.get (f := p.f) hk
    have HFA := Lib.hid (h.get hp)
    have HL : Hid (loose15 d n = (p.f.1.length : Int) - (p.f.2 : Int)) := by show _ = _; unfold loose15; rw [file_some15 (f := p.f) hk]
    have H1 : Hid (p.f.2 ≤ p.f.1.length) := h1
    have H2 : Hid (p.f.1.length ≤ 4194304) := h2
    clear hh hp hf hk h e h1 h2 hbd
    go_enter Try.func16, Try.ntmps16
    go_wp2_with (first | (go_at_call 36; refine (HF.out).mono ?_; rintro e w' ⟨rfl, ht⟩; have HT := Lib.hid ht; clear ht) | (go_at_call 38; refine (floose_any15 (p := p) (HFA.out.turn HT.out (fun f => f) (fun _ _ f => f)) H1.out H2.out).mono ?_; rintro e w' ⟨rfl, k, rfl⟩) | fail)
    go_ret
    exact ⟨by rw [HL.out]; rfl, HT.out.drewN k⟩
  · rw [hf] at HF
    rw [hp] at hk
    have HL : Hid (loose15 d n = 0) := by show _ = _; unfold loose15; rw [file_none15 hk]; rfl
    clear hh hp hf hk h e hbd
    go_enter Try.func16, Try.ntmps16
    go_wp2_with (go_at_call 36; refine (HF.out).mono ?_; rintro e w' ⟨rfl, ht⟩; have HT := Lib.hid ht; clear ht)
    go_ret
    exact ⟨by rw [HL.out]; rfl, HT.out⟩

theorem arm_any15 (n : Int) {w : World} {F : Nat → Prop} {g : Nat} {d : D15} (hm : DM15 w F g d) :
    Calls Try.prog 22 #[.pointer (some ⟨g, 0, none⟩), .int .i64 n] w fun e w' => DoesP15 DM15 w F g (arm15 d n).1 (.int .i64 (arm15 d n).2) e w' := by
  have HM := Lib.hid hm
  obtain ⟨M, rfl, h, e⟩ := hm
  obtain ⟨A, hb, hroot⟩ := h.root
  have HR := Lib.hid (refuses_any15 hb)
  have HRT := Lib.hid hroot
  have HE := Lib.hid e
  cases hd : d.down with
  | true =>
    have HA : Hid (arm15 d n = (d, 13)) := by show _ = _; unfold arm15; rw [if_pos hd]
    unfold ref15 at HR
    rw [hd] at HR
    clear h hb e hroot hd
    go_enter Try.func22, Try.ntmps22
    go_wp2_with (go_at_call 40; refine (HR.out).mono ?_; rintro e w' ⟨rfl, rfl⟩)
    go_ret
    rw [HA.out]
    exact ⟨rfl, does_stay15 HM.out (Turn.refl _ _)⟩
  | false =>
    unfold ref15 at HR
    rw [hd] at HR
    by_cases h1 : n < 1
    · have HA : Hid (arm15 d n = (d, 2)) := by show _ = _; unfold arm15; rw [if_neg (by rw [hd]; decide), if_pos h1]
      clear h hb e hroot hd
      go_enter Try.func22, Try.ntmps22
      go_wp2_with (go_at_call 40; refine (HR.out).mono ?_; rintro e w' ⟨rfl, rfl⟩)
      go_ret
      rw [HA.out]
      exact ⟨rfl, does_stay15 HM.out (Turn.refl _ _)⟩
    · have HA : Hid (arm15 d n = ({ d with left := n }, 0)) := by show _ = _; unfold arm15; rw [if_neg (by rw [hd]; decide), if_neg h1]
      have c1 := hb.cell 1
      have f1 := hb.free 1
      have hb1 := hb.set 1 (.int .i64 n)
      simp only [List.setIfInBounds_toArray, List.set_cons_succ, List.set_cons_zero] at hb1
      have HB1 := Lib.hid hb1
      have h1' : 1 ≤ n := by omega
      clear h hb e hroot hd hb1 h1
      go_enter Try.func22, Try.ntmps22
      go_wp2_with (go_at_call 40; refine (HR.out).mono ?_; rintro e w' ⟨rfl, rfl⟩)
      go_ret
      rw [HA.out]
      have ht : Turn (fun k => k = g) w (w.setCell ⟨g, 1, none⟩ (.int .i64 n)) := (Turn.refl (fun k => k = g) _).setCell (p := ⟨g, 1, none⟩) (fun _ => rfl) _
      exact ⟨rfl, Foot15 g M, ⟨M, rfl, HRT.out _ _ n d.down ht (fun _ e => e) HB1.out, HE.out⟩, ht.mono (fun _ _ e => .inl e), fun _ h => .inl h⟩

set_option maxHeartbeats 400000 in
theorem clone_any15 (v : Value) (l : List UInt8) (w : World) (hv : Rd w v l) (hl : l.length ≤ 100000000) :
    Calls Try.prog 48 #[v] w fun e w' => ∃ v', e = .returned v' ∧ Rd w' v' l ∧ Turn (fun _ => False) w w' := by
  obtain ⟨A, c, rfl, hk, hn, hc⟩ := hv
  cases A with
  | none =>
    obtain ⟨rfl, rfl⟩ := hn rfl
    clear hn hc
    have heq := fun (w : World) => Lib.run_eql_slice_nil (P := Try.prog) w 32 5 none 0 0 0 0 Try.underlying32
    go_enter Try.func48, Try.ntmps48
    go_wp2
    go_ret
    exact ⟨_, rfl, Rd.none _, Turn.refl _ _⟩
  | some ad =>
    have heq := fun (w : World) => Lib.run_eql_slice_nil (P := Try.prog) w 32 5 (some ad) l.length c 0 0 Try.underlying32
    have hY : ∀ o, Yields (w.alloc o) 32 (.slice (some ad) l.length c) l := fun o => by
      refine Rd.yields (Rd.turn (w := w) ⟨_, _, rfl, hk, hn, hc⟩ ((Turn.refl (fun _ => False) w).alloc o) (fun _ _ f => f))
    clear hn hc
    have HY := Lib.hid hY; clear hY
    go_enter Try.func48, Try.ntmps48
    go_wp2_with (at_builtin; go_must (refine wpList_app _ rfl _ _ _ rfl _ [] rfl (By.empty w) _ rfl l (HY.out _) (by simp; omega) ?_))
    intro A' n' c' w1 hby hg hat
    have HB := Lib.hid hby; clear hby
    have HG := Lib.hid hg; clear hg hat
    go_wp2
    go_ret
    refine ⟨.slice A' n' c', rfl, HB.out.rd, ((Turn.refl _ w).alloc _).grown HG.out ?_⟩
    intro k hk e
    simp [Value.ownBlock] at e
    omega

theorem read_any15 (n : List UInt8) {w : World} {F : Nat → Prop} {g : Nat} {d : D15} (hm : DM15 w F g d) (hbd : BdP15 d) : Calls Try.prog 25 #[.pointer (some ⟨g, 0, none⟩), sv15 n] w fun e w' => ReadP15 w (read15 d n) e w' := by
  obtain ⟨M, rfl, h, e⟩ := hm
  have HO := Lib.hid (open_any15 n h)
  have hk : getK ltN d.l n = (getK ltN M n).map PF15.f := by rw [← e]; exact fm_get15 _ _ _
  cases hd : d.down with
  | true =>
    have HA : Hid (read15 d n = ([], 13)) := by show _ = _; unfold read15; rw [if_pos hd]
    rw [hd, openA_down15] at HO
    clear h e hbd hk hd
    go_enter Try.func25, Try.ntmps25
    go_wp2_with (go_at_call 45; refine (HO.out).mono ?_; rintro e w' ⟨rfl, ht⟩; have HT := Lib.hid ht; clear ht)
    go_ret2
    rw [HA.out]
    exact ⟨_, rfl, Rd.none _, HT.out⟩
  | false =>
    rw [hd] at HO
    cases hp : getK ltN M n with
    | none =>
      rw [hp] at hk
      have HA : Hid (read15 d n = ([], 11)) := by show _ = _; unfold read15; rw [if_neg (by rw [hd]; decide), hk]; rfl
      rw [openA_none15 hp] at HO
      clear h e hbd hk hd hp
      go_enter Try.func25, Try.ntmps25
      go_wp2_with (go_at_call 45; refine (HO.out).mono ?_; rintro e w' ⟨rfl, ht⟩; have HT := Lib.hid ht; clear ht)
      go_ret2
      rw [HA.out]
      exact ⟨_, rfl, Rd.none _, HT.out⟩
    | some p =>
      rw [hp] at hk
      have HA : Hid (read15 d n = (p.f.1, 0)) := by show _ = _; unfold read15; rw [if_neg (by rw [hd]; decide), hk]; rfl
      rw [openA_some15 hp] at HO
      obtain ⟨h1, h2⟩ := hbd.ok.get (f := p.f) hk
      have HFA := Lib.hid (h.get hp)
      have H2 : Hid (p.f.1.length ≤ 100000000) := by show _ ≤ _; omega
      clear h e hbd hk hd hp h1 h2
      go_enter Try.func25, Try.ntmps25
      go_wp2_with (first
        | (go_at_call 45; refine (HO.out).mono ?_; rintro e w1 ⟨rfl, ht⟩; have HFB := Lib.hid (HFA.out.turn ht (fun f => f) (fun _ _ f => f)); have c0 := HFB.out.box.cell 0; have HT := Lib.hid ht; clear ht)
        | (go_at_call 48; refine (clone_any15 _ _ _ HFB.out.row.rd H2.out).mono ?_; rintro e w2 ⟨v, rfl, hr, ht2⟩; have HR := Lib.hid hr; have HT2 := Lib.hid ht2; clear hr ht2; obtain ⟨A2, c2, rfl⟩ := HR.out.shape)
        | fail)
      go_ret2
      rw [HA.out]
      exact ⟨_, rfl, HR.out, HT.out.trans HT2.out (fun _ _ f => f)⟩

end Go.Proofs.Ytclljogbingjiaa

/-
  Stage 15, the program: what is done at a call that counts (the closures); Sync, Remove.
-/
namespace Go.Proofs.Ytclljogbingjiaa
open Go.RowKit

set_option maxRecDepth 100000

set_option maxHeartbeats 2000000 in
theorem sync_do15 {w : World} {q b : Nat} {A : Option Addr} {N c : Nat} {K : Int} (hq : Box w q 65 #[.pointer (some ⟨b, 0, none⟩)]) (hb : Box w b 67 #[.slice A N c, .int .i64 K]) :
    Calls Try.prog 46 #[.pointer (some ⟨q, 0, none⟩)] w fun e w' => e = .returned (.tuple #[]) ∧ Turn (fun k => k = b) w w' ∧ Box w' b 67 #[.slice A N c, .int .i64 (N : Int)] := by
  have HQ := Lib.hid hq
  have HB := Lib.hid hb
  clear hq hb
  go_enter Try.func46, Try.ntmps46
  go_wp2_with fail
  refine drawn_region (fun W => Turn (fun _ => False) w W) [8] (by kernel_rfl) ?_
  have hS0 : Turn (fun _ => False) w (World.drew w) := (Turn.refl _ w).drew
  generalize World.drew w = wd at *
  refine drawn_take 0 1 (.pointer (some ⟨b, 0, none⟩)) rfl rfl (by kernel_rfl) (by kernel_rfl) (by kernel_rfl) (by kernel_rfl) (fun _ _ _ h => h) (by rfl) (by assumption) (by intro w hSw; have a0 := (HQ.out.turn hSw (fun f => f)).cell 0; clear hSw; go_simp) ?_
  try simp only [List.setIfInBounds_toArray, List.set_cons_zero, List.set_cons_succ]
  refine drawn_take 1 2 (.pointer (some ⟨b, 0, none⟩)) rfl rfl (by kernel_rfl) (by kernel_rfl) (by kernel_rfl) (by kernel_rfl) (fun _ _ _ h => h) (by rfl) (by assumption) (by intro w hSw; have a0 := (HQ.out.turn hSw (fun f => f)).cell 0; clear hSw; go_simp) ?_
  try simp only [List.setIfInBounds_toArray, List.set_cons_zero, List.set_cons_succ]
  refine drawn_take 2 3 (.pointer (some ⟨b, 0, none⟩)) rfl rfl (by kernel_rfl) (by kernel_rfl) (by kernel_rfl) (by kernel_rfl) (fun _ _ _ h => h) (by rfl) (by assumption) (by intro w hSw; clear hSw; go_simp) ?_
  try simp only [List.setIfInBounds_toArray, List.set_cons_zero, List.set_cons_succ]
  refine drawn_take 3 4 (.pointer (some ⟨b, 0, none⟩)) rfl rfl (by kernel_rfl) (by kernel_rfl) (by kernel_rfl) (by kernel_rfl) (fun _ _ _ h => h) (by rfl) (by assumption) (by intro w hSw; clear hSw; go_simp) ?_
  try simp only [List.setIfInBounds_toArray, List.set_cons_zero, List.set_cons_succ]
  refine drawn_take 4 5 (.slice A N c) rfl rfl (by kernel_rfl) (by kernel_rfl) (by kernel_rfl) (by kernel_rfl) (fun _ _ _ h => h) (by rfl) (by assumption) (by intro w hSw; have a0 := (HB.out.turn hSw (fun f => f)).cell 0; clear hSw; go_simp) ?_
  try simp only [List.setIfInBounds_toArray, List.set_cons_zero, List.set_cons_succ]
  refine drawn_take 5 6 (.int .i64 (N : Int)) rfl rfl (by kernel_rfl) (by kernel_rfl) (by kernel_rfl) (by kernel_rfl) (fun _ _ _ h => h) (by rfl) (by assumption) (by intro w hSw; clear hSw; go_simp) ?_
  try simp only [List.setIfInBounds_toArray, List.set_cons_zero, List.set_cons_succ]
  refine drawn_take 6 7 (.pointer (some ⟨b, 0, none⟩)) rfl rfl (by kernel_rfl) (by kernel_rfl) (by kernel_rfl) (by kernel_rfl) (fun _ _ _ h => h) (by rfl) (by assumption) (by intro w hSw; clear hSw; go_simp) ?_
  try simp only [List.setIfInBounds_toArray, List.set_cons_zero, List.set_cons_succ]
  refine drawn_take 7 8 (.pointer (some ⟨b, 1, none⟩)) rfl rfl (by kernel_rfl) (by kernel_rfl) (by kernel_rfl) (by kernel_rfl) (fun _ _ _ h => h) (by rfl) (by assumption) (by intro w hSw; clear hSw; go_simp) ?_
  try simp only [List.setIfInBounds_toArray, List.set_cons_zero, List.set_cons_succ]
  have hbd := HB.out.turn hS0 (fun f => f)
  have c1 := hbd.cell 1
  have f1 := hbd.free 1
  have hb2 := hbd.set 1 (.int .i64 (N : Int))
  simp only [List.setIfInBounds_toArray, List.set_cons_succ, List.set_cons_zero] at hb2
  have HB2 := Lib.hid hb2
  have HT := Lib.hid hS0
  refine drawn_last (z := 8) rfl (by kernel_rfl) (by kernel_rfl) (by kernel_rfl) (fun K hK => ?_)
  clear hbd hb2 hS0
  go_simp
  refine hK.out _ _ ?_
  clear hK K
  go_wp2
  go_end0
  exact ⟨rfl, Turn.setCell (S := fun k => k = b) (p := ⟨b, 1, none⟩) (HT.out.mono (fun _ _ f => f.elim)) (fun _ => rfl) _, HB2.out⟩

set_option maxHeartbeats 2000000 in
theorem remove_do15 (n : List UInt8) {w : World} {q1 q2 g : Nat} {M : PM15} {left : Int} {down : Bool} (h1 : Box w q1 25 #[.pointer (some ⟨g, 0, none⟩)]) (h2 : Box w q2 9 #[sv15 n]) (h : PD15 w g M left down) (hl : M.length ≤ 9000) :
    Calls Try.prog 51 #[.pointer (some ⟨q1, 0, none⟩), .pointer (some ⟨q2, 0, none⟩)] w fun e w' => e = .returned (.tuple #[]) ∧ Turn (fun k => k = g) w w' ∧ PD15 w' g (dropK ltN M n) left down := by
  have H1 := Lib.hid h1
  have H2 := Lib.hid h2
  have HD := Lib.hid h
  have HL : Hid ((fm15 PF15.at M).length ≤ 900000) := by show _ ≤ _; rw [fm_len15]; omega
  clear h1 h2 h hl
  go_enter Try.func51, Try.ntmps51
  go_wp2_with fail
  refine drawn_region (fun W => Turn (fun _ => False) w W) [4] (by kernel_rfl) ?_
  have hS0 : Turn (fun _ => False) w (World.drew w) := (Turn.refl _ w).drew
  generalize World.drew w = wd at *
  refine drawn_take 0 2 (.pointer (some ⟨g, 0, none⟩)) rfl rfl (by kernel_rfl) (by kernel_rfl) (by kernel_rfl) (by kernel_rfl) (fun _ _ _ h => h) (by rfl) (by assumption) (by intro w hSw; have a0 := (H1.out.turn hSw (fun f => f)).cell 0; clear hSw; go_simp) ?_
  try simp only [List.setIfInBounds_toArray, List.set_cons_zero, List.set_cons_succ]
  refine drawn_take 1 3 (.pointer (some ⟨g, 0, none⟩)) rfl rfl (by kernel_rfl) (by kernel_rfl) (by kernel_rfl) (by kernel_rfl) (fun _ _ _ h => h) (by rfl) (by assumption) (by intro w hSw; clear hSw; go_simp) ?_
  try simp only [List.setIfInBounds_toArray, List.set_cons_zero, List.set_cons_succ]
  refine drawn_take 2 4 (.pointer (some ⟨g, 0, none⟩)) rfl rfl (by kernel_rfl) (by kernel_rfl) (by kernel_rfl) (by kernel_rfl) (fun _ _ _ h => h) (by rfl) (by assumption) (by intro w hSw; clear hSw; go_simp) ?_
  try simp only [List.setIfInBounds_toArray, List.set_cons_zero, List.set_cons_succ]
  refine drawn_take 3 5 (sv15 n) rfl rfl (by kernel_rfl) (by kernel_rfl) (by kernel_rfl) (by kernel_rfl) (fun _ _ _ h => h) (by rfl) (by assumption) (by intro w hSw; have a0 := (H2.out.turn hSw (fun f => f)).cell 0; clear hSw; go_simp) ?_
  try simp only [List.setIfInBounds_toArray, List.set_cons_zero, List.set_cons_succ]
  have HT := Lib.hid hS0
  have HDD := Lib.hid (HD.out.later hS0)
  refine drawn_last (z := 4) rfl (by kernel_rfl) (by kernel_rfl) (by kernel_rfl) (fun K hK => ?_)
  clear hS0
  go_simp
  refine (omp.drop_any n HDD.out.map HL.out).mono ?_
  rintro e w2 ⟨rfl, hm2, t2⟩
  have HX : Hid (PD15 w2 g (dropK ltN M n) left down) := HDD.out.drop t2 (fun _ e => e) (by rw [fm_drop15]; exact hm2)
  have HT2 : Hid (Turn (fun k => k = g) w w2) := (HT.out.mono (fun _ _ f => f.elim)).trans t2 (fun _ _ e => e)
  clear hm2 t2
  refine hK.out _ _ ?_
  clear hK K
  go_wp2
  go_end0
  exact ⟨rfl, HT2.out, HX.out⟩

theorem cnt_one15 {d : D15} (h : d.left = 1) : cnt15 d = { d with left := 0, down := true } := by unfold cnt15; rw [if_neg (by rw [h]; decide), h]; rfl
theorem cnt_more15 {d : D15} (hd : d.down = false) (h : d.left ≠ 1) : cnt15 d = { d with left := if d.left = 0 then 0 else d.left - 1, down := false } := by
  unfold cnt15
  by_cases h0 : d.left = 0
  · rw [if_pos h0, if_pos h0]
    cases d
    dsimp only at hd h0
    subst hd; subst h0
    rfl
  · rw [if_neg h0, if_neg h0]
    have : decide (d.left - 1 = 0) = false := decide_eq_false (by omega)
    rw [this]
/-- Behind a call that counts: what is answered, of the disk as the document has it. -/
theorem counted15 {w w2 w' : World} {g : Nat} {M M' : PM15} {d : D15} {A : Option Addr} {e : Ending} {L : List (List UInt8 × FB15)} (hd : d.down = false) (hM : fm15 PF15.f M = d.l) (t2 : Turn (fun _ => False) w w2)
    (hA : ∀ (S : Nat → Prop) (w' : World) (left' : Int) (down' : Bool), Turn S w2 w' → (∀ k, S k → k = g) → Box w' g 59 #[.pointer A, .int .i64 left', .bool down'] → PD15 w' g M left' down') (hM' : fm15 PF15.f M' = L)
    (hc : Counted15 w2 g (.pointer A) d.left (fun w' => PD15 w' g M' (if d.left = 0 then 0 else d.left - 1) false ∧ Turn (Foot15 g M) w2 w' ∧ ∀ k, Foot15 g M' k → Foot15 g M k ∨ w.heap.size ≤ k) e w') :
    DoesP15 DM15 w (Foot15 g M) g (if (cnt15 d).down then (cnt15 d, (13 : Int)) else ({ cnt15 d with l := L }, 0)).1 (.int .i64 (if (cnt15 d).down then (cnt15 d, (13 : Int)) else ({ cnt15 d with l := L }, 0)).2) e w' := by
  have t2' : Turn (Foot15 g M) w w2 := t2.mono (fun _ _ f => f.elim)
  rcases hc with ⟨h1, rfl, hb, ht⟩ | ⟨h1, rfl, hx, ht, hf⟩
  · rw [cnt_one15 h1]
    exact ⟨rfl, Foot15 g M, ⟨M, rfl, hA _ _ 0 true ht (fun _ e => e) hb, hM⟩, t2'.trans (ht.mono (fun _ _ e => .inl e)) (fun _ _ e => e), fun _ h => .inl h⟩
  · rw [cnt_more15 hd h1]
    exact ⟨rfl, Foot15 g M', ⟨M', rfl, hx, hM'⟩, t2'.trans ht (fun _ _ e => e), hf⟩

theorem foot_drop15 {g : Nat} {M : PM15} {n : List UInt8} {k : Nat} (h : Foot15 g (dropK ltN M n) k) : Foot15 g M k := by
  rcases h with e | ⟨q, hq, e⟩
  · exact .inl e
  · exact .inr ⟨q, drop_sub15 hq, e⟩
theorem foot_put15 {g : Nat} {M : PM15} (hu : Up ltN M) {n : List UInt8} {p' : PF15} {k : Nat} (h : Foot15 g (putK ltN M n p') k) : Foot15 g M k ∨ p'.has k := by
  rcases h with e | ⟨q, hq, e⟩
  · exact .inl (.inl e)
  · rcases (put_mem rises_bytes hu).1 hq with rfl | ⟨h, _⟩
    · exact .inr e
    · exact .inl (.inr ⟨q, h, e⟩)

set_option maxHeartbeats 4000000 in
theorem sync_any15 (n : List UInt8) {w : World} {F : Nat → Prop} {g : Nat} {d : D15} (hm : DM15 w F g d) (hbd : BdP15 d) :
    Calls Try.prog 23 #[.pointer (some ⟨g, 0, none⟩), sv15 n] w fun e w' => DoesP15 DM15 w F g (sync15 d n).1 (.int .i64 (sync15 d n).2) e w' := by
  have HM := Lib.hid hm
  obtain ⟨M, rfl, h, e⟩ := hm
  have HO := Lib.hid (open_any15 n h)
  have hk : getK ltN d.l n = (getK ltN M n).map PF15.f := by rw [← e]; exact fm_get15 _ _ _
  cases hd : d.down with
  | true =>
    have HA : Hid (sync15 d n = (d, 13)) := by show _ = _; unfold sync15; rw [if_pos hd]
    rw [hd, openA_down15] at HO
    clear h e hbd hk hd
    go_enter Try.func23, Try.ntmps23
    go_wp2_with (go_at_call 45; refine (HO.out).mono ?_; rintro e w1 ⟨rfl, ht⟩; have HT := Lib.hid ht; clear ht)
    go_ret
    rw [HA.out]
    exact ⟨rfl, does_stay15 HM.out (HT.out.alloc _)⟩
  | false =>
    rw [hd] at HO
    cases hp : getK ltN M n with
    | none =>
      rw [hp] at hk
      have HA : Hid (sync15 d n = (d, 11)) := by show _ = _; unfold sync15; rw [if_neg (by rw [hd]; decide), hk]; rfl
      rw [openA_none15 hp] at HO
      clear h e hbd hk hd hp
      go_enter Try.func23, Try.ntmps23
      go_wp2_with (go_at_call 45; refine (HO.out).mono ?_; rintro e w1 ⟨rfl, ht⟩; have HT := Lib.hid ht; clear ht)
      go_ret
      rw [HA.out]
      exact ⟨rfl, does_stay15 HM.out (HT.out.alloc _)⟩
    | some p =>
      rw [hp] at hk
      have HA : Hid (sync15 d n = if (cnt15 d).down then (cnt15 d, 13) else ({ cnt15 d with l := putK ltN d.l n (p.f.1, p.f.1.length) }, 0)) := by show _ = _; unfold sync15; rw [if_neg (by rw [hd]; decide), hk]; rfl
      rw [openA_some15 hp] at HO
      have HP := Lib.hid hp
      have HD := Lib.hid h
      have HE := Lib.hid e
      have HN := Lib.hid hd
      have HLF := Lib.hid hbd.ok.left
      clear h e hbd hk hd hp
      go_enter Try.func23, Try.ntmps23
      go_wp2_with (go_at_call 45; refine (HO.out).mono ?_; rintro e w1 ⟨rfl, ht⟩; have HT := Lib.hid ht; clear ht)
      obtain ⟨w2, hw2⟩ : ∃ w2, w2 = w1.alloc (.cells #[.pointer (some ⟨p.b, 0, none⟩)] 65) := ⟨_, rfl⟩
      have HQ : Hid (Box w2 w1.heap.size 65 #[.pointer (some ⟨p.b, 0, none⟩)]) := by rw [hw2]; exact Box.new w1 _ _
      have HT2 : Hid (Turn (fun _ => False) w w2) := by rw [hw2]; exact HT.out.alloc _
      generalize w1.heap.size = q at *
      rw [← hw2]
      clear hw2
      have hd2 := HD.out.later HT2.out
      obtain ⟨A, hb, hroot⟩ := hd2.root
      have HR := Lib.hid hroot
      rw [HN.out] at hb
      have hpf := HD.out.get HP.out
      refine (count_any15 46 #[.pointer (some ⟨q, 0, none⟩)] (enters_of Try.func46 (by kernel_rfl) rfl) hb HLF.out (fun w' => PD15 w' g (putK ltN M n ⟨p.b, p.sl, (p.f.1, p.f.1.length)⟩) (if d.left = 0 then 0 else d.left - 1) false ∧ Turn (Foot15 g M) w2 w' ∧ ∀ k, Foot15 g (putK ltN M n ⟨p.b, p.sl, (p.f.1, p.f.1.length)⟩) k → Foot15 g M k ∨ w.heap.size ≤ k) (fun W _ tW bW => ?_)).mono ?_
      · have hDW := HR.out _ _ _ false tW (fun _ e => e) bW
        have hFW := hDW.get HP.out
        obtain ⟨A', c', hs⟩ := hFW.row.shape
        have hbW := hFW.box
        rw [hs] at hbW
        refine (sync_do15 (HQ.out.turn tW (fun e => by subst e; exact absurd (box_typ15 HQ.out hb) (by decide))) hbW).mono ?_
        rintro e w' ⟨rfl, ht, hb'⟩
        have hmem := get_mem15 HP.out
        have hmine : ∀ k, p.has k → Mine15 W M n k := fun k hk => .inl ⟨p, HP.out, hk⟩
        refine ⟨rfl, hDW.mine ht ?_ ⟨by rw [← hs] at hb'; exact hb', hFW.row.turn ht (fun k hk e => by subst e; obtain ⟨cs, h1⟩ := hFW.row.typ hk; exact absurd (box_typ15 h1 hFW.box) (by decide))⟩ (fun k _ e => .inr (hmine k (.inl e.symm))) (fun k hk => hmine k hk), ?_, ?_⟩
        · rw [fm_put15, show PF15.at ⟨p.b, p.sl, (p.f.1, p.f.1.length)⟩ = p.at from rfl, put_get15 (by rw [fm_get15, HP.out]; rfl)]
          exact hDW.map.turn ht (fun e => hFW.ne_disk (.inl rfl) bW e.symm) (fun i cs hi e => by subst e; exact absurd (box_typ15 hi hFW.box) (by decide))
        · exact (tW.mono (fun _ _ e => .inl e)).trans ht (fun k _ e => .inr ⟨_, hmem, .inl e.symm⟩)
        · intro k hk
          rcases foot_put15 HD.out.up hk with h | h
          · exact .inl h
          · exact .inl (.inr ⟨_, hmem, h⟩)
      · intro e w' hc
        have HX := Lib.hid (counted15 (L := putK ltN d.l n (p.f.1, p.f.1.length)) HN.out HE.out HT2.out HR.out (by rw [fm_put15, HE.out]) hc)
        rw [← HA.out] at HX
        obtain ⟨v, hv⟩ : ∃ v, v = (sync15 d n).2 := ⟨_, rfl⟩
        have hX := HX.out
        obtain ⟨he, hrest⟩ := hX
        subst he
        have HRS := Lib.hid hrest
        clear hrest hc hb hroot hd2 hpf HX
        go_wp2
        go_ret
        exact ⟨rfl, HRS.out⟩

end Go.Proofs.Ytclljogbingjiaa

/-
  Stage 15, the program: Remove, Rename.
-/
namespace Go.Proofs.Ytclljogbingjiaa
open Go.RowKit

set_option maxRecDepth 100000

theorem box_two15 {w : World} {t t' : TypeId} {cs cs' : Array Value} : Box ((w.alloc (.cells cs t)).alloc (.cells cs' t')) w.heap.size t cs ∧ Box ((w.alloc (.cells cs t)).alloc (.cells cs' t')) (w.heap.size + 1) t' cs' := by
  refine ⟨(Box.new w t cs).alloc _, ?_⟩
  have h := Box.new (w.alloc (.cells cs t)) t' cs'
  rw [World.size_alloc] at h
  exact h

set_option maxHeartbeats 4000000 in
theorem remove_any15 (n : List UInt8) {w : World} {F : Nat → Prop} {g : Nat} {d : D15} (hm : DM15 w F g d) (hbd : BdP15 d) :
    Calls Try.prog 27 #[.pointer (some ⟨g, 0, none⟩), sv15 n] w fun e w' => DoesP15 DM15 w F g (rem15 d n).1 (.int .i64 (rem15 d n).2) e w' := by
  have HM := Lib.hid hm
  obtain ⟨M, rfl, h, e⟩ := hm
  have HO : Hid (∀ W, Turn (fun _ => False) w W → Calls Try.prog 45 #[.pointer (some ⟨g, 0, none⟩), sv15 n] W fun e w' => e = .returned (openA15 M d.down n) ∧ Turn (fun _ => False) W w') := fun W ht => open_any15 n (h.later ht)
  have hk : hasK ltN d.l n = (getK ltN M n).isSome := by rw [← e, fm_has15, has_get]
  obtain ⟨wb, hwb⟩ : ∃ wb, wb = (w.alloc (.cells #[.pointer (some ⟨g, 0, none⟩)] 25)).alloc (.cells #[sv15 n] 9) := ⟨_, rfl⟩
  have HTB : Hid (Turn (fun _ => False) w wb) := by rw [hwb]; exact ((Turn.refl _ w).alloc _).alloc _
  have HX : Hid (Box wb w.heap.size 25 #[.pointer (some ⟨g, 0, none⟩)] ∧ Box wb (w.heap.size + 1) 9 #[sv15 n]) := by rw [hwb]; exact box_two15
  have HWB := Lib.hid hwb
  clear hwb
  cases hd : d.down with
  | true =>
    have HA : Hid (rem15 d n = (d, 13)) := by show _ = _; unfold rem15; rw [if_pos hd]
    rw [hd, openA_down15] at HO
    clear h e hbd hk hd
    go_enter Try.func27, Try.ntmps27
    go_wp2_with (go_at_call 45; rw [← HWB.out]; refine (HO.out _ HTB.out).mono ?_; rintro e w1 ⟨rfl, ht⟩; have HT := Lib.hid (HTB.out.trans ht (fun _ _ f => f)); clear ht)
    go_ret
    rw [HA.out]
    exact ⟨rfl, does_stay15 HM.out HT.out⟩
  | false =>
    rw [hd] at HO
    cases hp : getK ltN M n with
    | none =>
      rw [hp] at hk
      have HA : Hid (rem15 d n = (d, 11)) := by show _ = _; unfold rem15; rw [if_neg (by rw [hd]; decide), hk]; rfl
      rw [openA_none15 hp] at HO
      clear h e hbd hk hd hp
      go_enter Try.func27, Try.ntmps27
      go_wp2_with (go_at_call 45; rw [← HWB.out]; refine (HO.out _ HTB.out).mono ?_; rintro e w1 ⟨rfl, ht⟩; have HT := Lib.hid (HTB.out.trans ht (fun _ _ f => f)); clear ht)
      go_ret
      rw [HA.out]
      exact ⟨rfl, does_stay15 HM.out HT.out⟩
    | some p =>
      rw [hp] at hk
      have HA : Hid (rem15 d n = if (cnt15 d).down then (cnt15 d, 13) else ({ cnt15 d with l := dropK ltN d.l n }, 0)) := by show _ = _; unfold rem15; rw [if_neg (by rw [hd]; decide), hk]; rfl
      rw [openA_some15 hp] at HO
      have HD := Lib.hid h
      have HE := Lib.hid e
      have HN := Lib.hid hd
      have HLF := Lib.hid hbd.ok.left
      have HL : Hid (M.length ≤ 9000) := by have := hbd.len; rw [← e, fm_len15] at this; exact this
      clear h e hbd hk hd hp
      go_enter Try.func27, Try.ntmps27
      go_wp2_with (go_at_call 45; rw [← HWB.out]; refine (HO.out _ HTB.out).mono ?_; rintro e w1 ⟨rfl, ht⟩; have HT := Lib.hid (HTB.out.trans ht (fun _ _ f => f)); have HX1 := Lib.hid (HX.out.1.turn ht (fun f => f)); have HX2 := Lib.hid (HX.out.2.turn ht (fun f => f)); have c0 := HX1.out.cell 0; clear ht)
      generalize w.heap.size = q at *
      clear c0
      have hd1 := HD.out.later HT.out
      obtain ⟨A, hb, hroot⟩ := hd1.root
      have HR := Lib.hid hroot
      rw [HN.out] at hb
      refine (count_any15 51 #[.pointer (some ⟨q, 0, none⟩), .pointer (some ⟨q + 1, 0, none⟩)] (enters_of Try.func51 (by kernel_rfl) rfl) hb HLF.out (fun w' => PD15 w' g (dropK ltN M n) (if d.left = 0 then 0 else d.left - 1) false ∧ Turn (Foot15 g M) w1 w' ∧ ∀ k, Foot15 g (dropK ltN M n) k → Foot15 g M k ∨ w.heap.size ≤ k) (fun W _ tW bW => ?_)).mono ?_
      · have hDW := HR.out _ _ _ false tW (fun _ e => e) bW
        refine (remove_do15 n (HX1.out.turn tW (fun e => by subst e; exact absurd (box_typ15 HX1.out hb) (by decide))) (HX2.out.turn tW (fun e => by rw [e] at HX2; exact absurd (box_typ15 HX2.out hb) (by decide))) hDW HL.out).mono ?_
        rintro e w' ⟨rfl, ht, hd'⟩
        exact ⟨rfl, hd', (tW.trans ht (fun _ _ e => e)).mono (fun _ _ e => .inl e), fun k hk => .inl (foot_drop15 hk)⟩
      · intro e w' hc
        have HX := Lib.hid (counted15 (L := dropK ltN d.l n) HN.out HE.out HT.out HR.out (by rw [fm_drop15, HE.out]) hc)
        rw [← HA.out] at HX
        have hX := HX.out
        obtain ⟨he, hrest⟩ := hX
        subst he
        have HRS := Lib.hid hrest
        clear hrest hc hb hroot hd1 HX
        go_wp2
        go_ret
        exact ⟨rfl, HRS.out⟩

set_option maxHeartbeats 4000000 in
theorem rename_do15 (n m : List UInt8) {w : World} {q1 q2 q3 q4 g : Nat} {M : PM15} {p : PF15} {left : Int} {down : Bool} (h1 : Box w q1 25 #[.pointer (some ⟨g, 0, none⟩)]) (h2 : Box w q2 9 #[sv15 n]) (h3 : Box w q3 9 #[sv15 m])
    (h4 : Box w q4 65 #[.pointer (some ⟨p.b, 0, none⟩)]) (hp : getK ltN M n = some p) (h : PD15 w g M left down) (hl : M.length ≤ 9000) :
    Calls Try.prog 49 #[.pointer (some ⟨q1, 0, none⟩), .pointer (some ⟨q2, 0, none⟩), .pointer (some ⟨q3, 0, none⟩), .pointer (some ⟨q4, 0, none⟩)] w fun e w' =>
      e = .returned (.tuple #[]) ∧ Turn (fun k => k = g) w w' ∧ PD15 w' g (putK ltN (dropK ltN M n) m p) left down := by
  have H1 := Lib.hid h1
  have H2 := Lib.hid h2
  have H3 := Lib.hid h3
  have H4 := Lib.hid h4
  have HD := Lib.hid h
  have HP := Lib.hid hp
  have HL : Hid ((fm15 PF15.at M).length ≤ 900000) := by show _ ≤ _; rw [fm_len15]; omega
  obtain ⟨A, hb⟩ := h.box
  have HNE : Hid (q1 ≠ g ∧ q3 ≠ g ∧ q4 ≠ g) := ⟨fun e => by rw [e] at h1; exact absurd (box_typ15 h1 hb) (by decide), fun e => by rw [e] at h3; exact absurd (box_typ15 h3 hb) (by decide), fun e => by rw [e] at h4; exact absurd (box_typ15 h4 hb) (by decide)⟩
  clear h1 h2 h3 h4 h hl hp hb
  go_enter Try.func49, Try.ntmps49
  go_wp2_with fail
  refine drawn_region (fun W => Turn (fun _ => False) w W) [4] (by kernel_rfl) ?_
  have hS0 : Turn (fun _ => False) w (World.drew w) := (Turn.refl _ w).drew
  generalize World.drew w = wd at *
  refine drawn_take 0 4 (.pointer (some ⟨g, 0, none⟩)) rfl rfl (by kernel_rfl) (by kernel_rfl) (by kernel_rfl) (by kernel_rfl) (fun _ _ _ h => h) (by rfl) (by assumption) (by intro w hSw; have a0 := (H1.out.turn hSw (fun f => f)).cell 0; clear hSw; go_simp) ?_
  try simp only [List.setIfInBounds_toArray, List.set_cons_zero, List.set_cons_succ]
  refine drawn_take 1 5 (.pointer (some ⟨g, 0, none⟩)) rfl rfl (by kernel_rfl) (by kernel_rfl) (by kernel_rfl) (by kernel_rfl) (fun _ _ _ h => h) (by rfl) (by assumption) (by intro w hSw; clear hSw; go_simp) ?_
  try simp only [List.setIfInBounds_toArray, List.set_cons_zero, List.set_cons_succ]
  refine drawn_take 2 6 (.pointer (some ⟨g, 0, none⟩)) rfl rfl (by kernel_rfl) (by kernel_rfl) (by kernel_rfl) (by kernel_rfl) (fun _ _ _ h => h) (by rfl) (by assumption) (by intro w hSw; clear hSw; go_simp) ?_
  try simp only [List.setIfInBounds_toArray, List.set_cons_zero, List.set_cons_succ]
  refine drawn_take 3 7 (sv15 n) rfl rfl (by kernel_rfl) (by kernel_rfl) (by kernel_rfl) (by kernel_rfl) (fun _ _ _ h => h) (by rfl) (by assumption) (by intro w hSw; have a0 := (H2.out.turn hSw (fun f => f)).cell 0; clear hSw; go_simp) ?_
  try simp only [List.setIfInBounds_toArray, List.set_cons_zero, List.set_cons_succ]
  have HT := Lib.hid hS0
  have HDD := Lib.hid (HD.out.later hS0)
  refine drawn_last (z := 4) rfl (by kernel_rfl) (by kernel_rfl) (by kernel_rfl) (fun K hK => ?_)
  clear hS0
  go_simp
  refine (omp.drop_any n HDD.out.map HL.out).mono ?_
  rintro e w2 ⟨rfl, hm2, t2⟩
  have HX : Hid (PD15 w2 g (dropK ltN M n) left down) := HDD.out.drop t2 (fun _ e => e) (by rw [fm_drop15]; exact hm2)
  have HT2 : Hid (Turn (fun k => k = g) w w2) := (HT.out.mono (fun _ _ f => f.elim)).trans t2 (fun _ _ e => e)
  clear hm2 t2
  refine hK.out _ _ ?_
  clear hK K
  go_wp2_with fail
  have HB1 := Lib.hid (H1.out.turn HT2.out HNE.out.1)
  have HB3 := Lib.hid (H3.out.turn HT2.out HNE.out.2.1)
  have HB4 := Lib.hid (H4.out.turn HT2.out HNE.out.2.2)
  refine drawn_region (fun W => Turn (fun _ => False) w2 W) [5] (by kernel_rfl) ?_
  have hS0 : Turn (fun _ => False) w2 (World.drew w2) := (Turn.refl _ w2).drew
  generalize World.drew w2 = wd2 at *
  refine drawn_take 0 9 (.pointer (some ⟨g, 0, none⟩)) rfl rfl (by kernel_rfl) (by kernel_rfl) (by kernel_rfl) (by kernel_rfl) (fun _ _ _ h => h) (by rfl) (by assumption) (by intro w hSw; have a0 := (HB1.out.turn hSw (fun f => f)).cell 0; clear hSw; go_simp) ?_
  try simp only [List.setIfInBounds_toArray, List.set_cons_zero, List.set_cons_succ]
  refine drawn_take 1 10 (.pointer (some ⟨g, 0, none⟩)) rfl rfl (by kernel_rfl) (by kernel_rfl) (by kernel_rfl) (by kernel_rfl) (fun _ _ _ h => h) (by rfl) (by assumption) (by intro w hSw; clear hSw; go_simp) ?_
  try simp only [List.setIfInBounds_toArray, List.set_cons_zero, List.set_cons_succ]
  refine drawn_take 2 11 (.pointer (some ⟨g, 0, none⟩)) rfl rfl (by kernel_rfl) (by kernel_rfl) (by kernel_rfl) (by kernel_rfl) (fun _ _ _ h => h) (by rfl) (by assumption) (by intro w hSw; clear hSw; go_simp) ?_
  try simp only [List.setIfInBounds_toArray, List.set_cons_zero, List.set_cons_succ]
  refine drawn_take 3 12 (sv15 m) rfl rfl (by kernel_rfl) (by kernel_rfl) (by kernel_rfl) (by kernel_rfl) (fun _ _ _ h => h) (by rfl) (by assumption) (by intro w hSw; have a0 := (HB3.out.turn hSw (fun f => f)).cell 0; clear hSw; go_simp) ?_
  try simp only [List.setIfInBounds_toArray, List.set_cons_zero, List.set_cons_succ]
  refine drawn_take 4 13 (.pointer (some ⟨p.b, 0, none⟩)) rfl rfl (by kernel_rfl) (by kernel_rfl) (by kernel_rfl) (by kernel_rfl) (fun _ _ _ h => h) (by rfl) (by assumption) (by intro w hSw; have a0 := (HB4.out.turn hSw (fun f => f)).cell 0; clear hSw; go_simp) ?_
  try simp only [List.setIfInBounds_toArray, List.set_cons_zero, List.set_cons_succ]
  have HTD := Lib.hid hS0
  have HXD := Lib.hid (HX.out.later hS0)
  refine drawn_last (z := 5) rfl (by kernel_rfl) (by kernel_rfl) (by kernel_rfl) (fun K hK => ?_)
  clear hS0
  go_simp
  refine (omp.put_any m (some ⟨p.b, 0, none⟩) HXD.out.map (by rw [fm_len15]; have h1 := drop_len (lt := ltN) M n; have h2 := HL.out; rw [fm_len15] at h2; omega)).mono ?_
  rintro e w3 ⟨rfl, hm3, t3⟩
  have HT3 : Hid (Turn (fun k => k = g) w w3) := (HT2.out.trans HTD.out (fun _ _ f => f.elim)).trans t3 (fun _ _ e => e)
  have HF : Hid (PD15 w3 g (putK ltN (dropK ltN M n) m p) left down) := by
    obtain ⟨A, hb⟩ := HD.out.box
    have hfp := HD.out.get HP.out
    refine HXD.out.put t3 (by rw [fm_put15]; exact hm3) (hfp.turn HT3.out (fun e => hfp.ne_disk (.inl rfl) hb e) (fun k hk e => hfp.ne_disk (.inr hk) hb e)) (fun q hq _ k hk e => ?_) (fun q hq _ k hk => ?_)
    · exact (HD.out.files q (drop_sub15 hq)).ne_disk hk hb e
    · exact HD.out.other (get_mem15 HP.out) (drop_sub15 hq) (drop_ne15 HD.out.up hq) hk
  clear hm3 t3
  refine hK.out _ _ ?_
  clear hK K
  go_wp2
  go_end0
  exact ⟨rfl, HT3.out, HF.out⟩

end Go.Proofs.Ytclljogbingjiaa

/-
  Stage 15, the program: Rename, Append.
-/
namespace Go.Proofs.Ytclljogbingjiaa
open Go.RowKit

set_option maxRecDepth 100000

theorem box_three15 {w : World} {t t' t'' : TypeId} {cs cs' cs'' : Array Value} : Box (((w.alloc (.cells cs t)).alloc (.cells cs' t')).alloc (.cells cs'' t'')) w.heap.size t cs ∧ Box (((w.alloc (.cells cs t)).alloc (.cells cs' t')).alloc (.cells cs'' t'')) (w.heap.size + 1) t' cs' ∧
    Box (((w.alloc (.cells cs t)).alloc (.cells cs' t')).alloc (.cells cs'' t'')) (w.heap.size + 1 + 1) t'' cs'' := by
  obtain ⟨h1, h2⟩ := box_two15 (w := w.alloc (.cells cs t)) (t := t') (t' := t'') (cs := cs') (cs' := cs'')
  rw [World.size_alloc] at h1 h2
  exact ⟨((Box.new w t cs).alloc _).alloc _, h1, h2⟩

set_option maxHeartbeats 4000000 in
theorem rename_any15 (n m : List UInt8) {w : World} {F : Nat → Prop} {g : Nat} {d : D15} (hm : DM15 w F g d) (hbd : BdP15 d) :
    Calls Try.prog 26 #[.pointer (some ⟨g, 0, none⟩), sv15 n, sv15 m] w fun e w' => DoesP15 DM15 w F g (ren15 d n m).1 (.int .i64 (ren15 d n m).2) e w' := by
  have HM := Lib.hid hm
  obtain ⟨M, rfl, h, e⟩ := hm
  have HO : Hid (∀ W, Turn (fun _ => False) w W → Calls Try.prog 45 #[.pointer (some ⟨g, 0, none⟩), sv15 n] W fun e w' => e = .returned (openA15 M d.down n) ∧ Turn (fun _ => False) W w') := fun W ht => open_any15 n (h.later ht)
  have HF : Hid (∀ W, Turn (fun _ => False) w W → Calls Try.prog 40 #[.pointer (some ⟨g, 0, none⟩)] W fun e w' => e = .returned (.int .i64 (ref15 d.down)) ∧ W = w') := fun W ht => by obtain ⟨A, hb⟩ := (h.later ht).box; exact refuses_any15 hb
  have hk : getK ltN d.l n = (getK ltN M n).map PF15.f := by rw [← e]; exact fm_get15 _ _ _
  obtain ⟨wb, hwb⟩ : ∃ wb, wb = ((w.alloc (.cells #[.pointer (some ⟨g, 0, none⟩)] 25)).alloc (.cells #[sv15 n] 9)).alloc (.cells #[sv15 m] 9) := ⟨_, rfl⟩
  have HTB : Hid (Turn (fun _ => False) w wb) := by rw [hwb]; exact (((Turn.refl _ w).alloc _).alloc _).alloc _
  have HX : Hid (Box wb w.heap.size 25 #[.pointer (some ⟨g, 0, none⟩)] ∧ Box wb (w.heap.size + 1) 9 #[sv15 n] ∧ Box wb (w.heap.size + 1 + 1) 9 #[sv15 m]) := by rw [hwb]; exact box_three15
  have HWB := Lib.hid hwb
  clear hwb
  cases hd : d.down with
  | true =>
    have HA : Hid (ren15 d n m = (d, 13)) := by show _ = _; unfold ren15; rw [if_pos hd]
    rw [hd] at HF
    unfold ref15 at HF
    clear h e hbd hk hd HO
    go_enter Try.func26, Try.ntmps26
    go_wp2_with (go_at_call 40; rw [← HWB.out]; refine (HF.out _ HTB.out).mono ?_; rintro e w1 ⟨rfl, rfl⟩)
    go_ret
    rw [HA.out]
    exact ⟨rfl, does_stay15 HM.out HTB.out⟩
  | false =>
    rw [hd] at HO HF
    unfold ref15 at HF
    have cX : Hid (∀ W, Turn (fun _ => False) wb W → W.cell? ⟨w.heap.size, 0, none⟩ = some (.pointer (some ⟨g, 0, none⟩)) ∧ W.cell? ⟨w.heap.size + 1, 0, none⟩ = some (sv15 n) ∧ W.cell? ⟨w.heap.size + 1 + 1, 0, none⟩ = some (sv15 m)) := fun W ht => ⟨(HX.out.1.turn ht (fun f => f)).cell 0, (HX.out.2.1.turn ht (fun f => f)).cell 0, (HX.out.2.2.turn ht (fun f => f)).cell 0⟩
    cases hn : named15 m with
    | false =>
      have HA : Hid (ren15 d n m = (d, 2)) := by show _ = _; unfold ren15; rw [if_neg (by rw [hd]; decide), if_pos hn]
      have HNM := fun W => Lib.hid (named_any15 m W)
      rw [hn] at HNM
      clear h e hbd hk hd HO hn
      go_enter Try.func26, Try.ntmps26
      go_wp2_with (first
        | (go_at_call 40; rw [← HWB.out]; refine (HF.out _ HTB.out).mono ?_; rintro e w1 ⟨rfl, rfl⟩; obtain ⟨x0, x1, x2⟩ := cX.out _ (Turn.refl _ _))
        | (go_at_call 41; refine (HNM _).out.mono ?_; rintro e w1 ⟨rfl, rfl⟩)
        | fail)
      go_ret
      rw [HA.out]
      exact ⟨rfl, does_stay15 HM.out HTB.out⟩
    | true =>
      have HNM := fun W => Lib.hid (named_any15 m W)
      rw [hn] at HNM
      cases hp : getK ltN M n with
      | none =>
        rw [hp] at hk
        have HA : Hid (ren15 d n m = (d, 11)) := by show _ = _; unfold ren15; rw [if_neg (by rw [hd]; decide), if_neg (by rw [hn]; decide), hk]; rfl
        rw [openA_none15 hp] at HO
        clear h e hbd hk hd hp hn
        go_enter Try.func26, Try.ntmps26
        go_wp2_with (first
          | (go_at_call 40; rw [← HWB.out]; refine (HF.out _ HTB.out).mono ?_; rintro e w1 ⟨rfl, rfl⟩; obtain ⟨x0, x1, x2⟩ := cX.out _ (Turn.refl _ _))
          | (go_at_call 41; refine (HNM _).out.mono ?_; rintro e w1 ⟨rfl, rfl⟩)
          | (go_at_call 45; refine (HO.out _ HTB.out).mono ?_; rintro e w1 ⟨rfl, ht⟩; have HT := Lib.hid (HTB.out.trans ht (fun _ _ f => f)); clear ht)
          | fail)
        go_ret
        rw [HA.out]
        exact ⟨rfl, does_stay15 HM.out (HT.out.alloc _)⟩
      | some p =>
        rw [hp] at hk
        have HA : Hid (ren15 d n m = if (cnt15 d).down then (cnt15 d, 13) else ({ cnt15 d with l := putK ltN (dropK ltN d.l n) m p.f }, 0)) := by show _ = _; unfold ren15; rw [if_neg (by rw [hd]; decide), if_neg (by rw [hn]; decide), hk]; rfl
        rw [openA_some15 hp] at HO
        have HD := Lib.hid h
        have HE := Lib.hid e
        have HN := Lib.hid hd
        have HP := Lib.hid hp
        have HLF := Lib.hid hbd.ok.left
        have HL : Hid (M.length ≤ 9000) := by have := hbd.len; rw [← e, fm_len15] at this; exact this
        clear h e hbd hk hd hp hn
        go_enter Try.func26, Try.ntmps26
        go_wp2_with (first
          | (go_at_call 40; rw [← HWB.out]; refine (HF.out _ HTB.out).mono ?_; rintro e w1 ⟨rfl, rfl⟩; obtain ⟨x0, x1, x2⟩ := cX.out _ (Turn.refl _ _))
          | (go_at_call 41; refine (HNM _).out.mono ?_; rintro e w1 ⟨rfl, rfl⟩)
          | (go_at_call 45; refine (HO.out _ HTB.out).mono ?_; rintro e w1 ⟨rfl, ht⟩; have HT := Lib.hid ht; clear x0 x1 x2; obtain ⟨x0, x1, x2⟩ := cX.out _ (ht.alloc (.cells #[.pointer (some ⟨p.b, 0, none⟩)] 65)); clear ht)
          | fail)
        clear x0 x1 x2
        obtain ⟨w2, hw2⟩ : ∃ w2, w2 = w1.alloc (.cells #[.pointer (some ⟨p.b, 0, none⟩)] 65) := ⟨_, rfl⟩
        have HQ : Hid (Box w2 w1.heap.size 65 #[.pointer (some ⟨p.b, 0, none⟩)]) := by rw [hw2]; exact Box.new w1 _ _
        have HTX : Hid (Turn (fun _ => False) wb w2) := by rw [hw2]; exact HT.out.alloc _
        have HT2 : Hid (Turn (fun _ => False) w w2) := HTB.out.trans HTX.out (fun _ _ f => f)
        have HX1 := Lib.hid (HX.out.1.turn HTX.out (fun f => f))
        have HX2 := Lib.hid (HX.out.2.1.turn HTX.out (fun f => f))
        have HX3 := Lib.hid (HX.out.2.2.turn HTX.out (fun f => f))
        generalize w1.heap.size = q4 at *
        rw [← hw2]
        clear hw2
        have hd1 := HD.out.later HT2.out
        obtain ⟨A, hb, hroot⟩ := hd1.root
        have HR := Lib.hid hroot
        rw [HN.out] at hb
        refine (count_any15 49 #[.pointer (some ⟨w.heap.size, 0, none⟩), .pointer (some ⟨w.heap.size + 1, 0, none⟩), .pointer (some ⟨w.heap.size + 1 + 1, 0, none⟩), .pointer (some ⟨q4, 0, none⟩)] (enters_of Try.func49 (by kernel_rfl) rfl) hb HLF.out
          (fun w' => PD15 w' g (putK ltN (dropK ltN M n) m p) (if d.left = 0 then 0 else d.left - 1) false ∧ Turn (Foot15 g M) w2 w' ∧ ∀ k, Foot15 g (putK ltN (dropK ltN M n) m p) k → Foot15 g M k ∨ w.heap.size ≤ k) (fun W _ tW bW => ?_)).mono ?_
        · have hDW := HR.out _ _ _ false tW (fun _ e => e) bW
          have hne : ∀ {q : Nat} {t : TypeId} {cs : Array Value}, Box w2 q t cs → t ≠ 59 → ¬ q = g := fun hq ht e => by subst e; exact ht (box_typ15 hq hb)
          refine (rename_do15 n m (HX1.out.turn tW (hne HX1.out (by decide))) (HX2.out.turn tW (hne HX2.out (by decide))) (HX3.out.turn tW (hne HX3.out (by decide))) (HQ.out.turn tW (hne HQ.out (by decide))) HP.out hDW HL.out).mono ?_
          rintro e w' ⟨rfl, ht, hd'⟩
          refine ⟨rfl, hd', (tW.trans ht (fun _ _ e => e)).mono (fun _ _ e => .inl e), fun k hk => ?_⟩
          rcases foot_put15 (drop_up rises_bytes HD.out.up n) hk with h | h
          · exact .inl (foot_drop15 h)
          · exact .inl (.inr ⟨_, get_mem15 HP.out, h⟩)
        · intro e w' hc
          have HZ := Lib.hid (counted15 (L := putK ltN (dropK ltN d.l n) m p.f) HN.out HE.out HT2.out HR.out (by rw [fm_put15, fm_drop15, HE.out]) hc)
          rw [← HA.out] at HZ
          have hX := HZ.out
          obtain ⟨he, hrest⟩ := hX
          subst he
          have HRS := Lib.hid hrest
          clear hrest hc hb hroot hd1 HZ
          go_wp2
          go_ret
          exact ⟨rfl, HRS.out⟩

set_option maxHeartbeats 2000000 in
theorem none_do15 (w : World) : Calls Try.prog 44 #[] w fun e w' => e = .returned (.tuple #[]) ∧ w = w' := by
  go_enter Try.func44, Try.ntmps44
  go_wp2
  go_end0
  exact ⟨rfl, rfl⟩

theorem app_post15 {d : D15} {L : List (List UInt8 × FB15)} : (if (cnt15 { d with l := L }).down then (cnt15 { d with l := L }, (13 : Int)) else ({ cnt15 { d with l := L } with l := L }, 0)) = (cnt15 { d with l := L }, done15 (cnt15 d)) := by
  have h1 : (cnt15 { d with l := L }).down = (cnt15 d).down := by unfold cnt15; split <;> rfl
  have h2 : (cnt15 { d with l := L }).l = L := cnt_l15 _
  unfold done15
  rw [h1]
  split
  · rfl
  · rw [show ({ cnt15 { d with l := L } with l := L } : D15) = cnt15 { d with l := L } from by
      generalize cnt15 { d with l := L } = x at *
      cases x
      dsimp only at h2
      subst h2
      rfl]

theorem mine_foot15 {w : World} {g : Nat} {M : PM15} {n : List UInt8} {k : Nat} (h : Mine15 w M n k) : Foot15 g M k ∨ w.heap.size ≤ k := by
  rcases h with ⟨p, hp, e⟩ | h
  · exact .inl (.inr ⟨_, get_mem15 hp, e⟩)
  · exact .inr h
theorem does_after15 {w w4 w' : World} {F F1 : Nat → Prop} {g : Nat} {d2 : D15} {v : Value} {e : Ending} (h : DoesP15 DM15 w4 F1 g d2 v e w') (ht : Turn F w w4) (hf : ∀ k, F1 k → F k ∨ w.heap.size ≤ k) : DoesP15 DM15 w F g d2 v e w' := by
  obtain ⟨he, F', hm, ht', hf'⟩ := h
  refine ⟨he, F', hm, ht.trans ht' (fun k hk e => ?_), fun k hk => ?_⟩
  · rcases hf k e with h | h
    · exact h
    · omega
  · rcases hf' k hk with h | h
    · exact hf k h
    · exact .inr (Nat.le_trans ht.size h)
/-- The file that a call finds, or makes: its blocks are of no other's. -/
structure Found15 (w1 wX : World) (g : Nat) (M : PM15) (n : List UInt8) (pb : Nat) (A : Option Addr) (N c : Nat) (K : Nat) (fb : List UInt8) : Prop where
  to : Turn (fun _ => False) w1 wX
  box : Box wX pb 67 #[.slice A N c, .int .i64 (K : Int)]
  row : Bw15 wX (.slice A N c) fb
  mine : ∀ k, (pb = k ∨ (Value.slice A N c).ownBlock = some k) → Mine15 w1 M n k
  node : ∀ i cs, Box w1 i 93 cs → ¬ (pb = i ∨ (Value.slice A N c).ownBlock = some i)
  root : ¬ (pb = g ∨ (Value.slice A N c).ownBlock = some g)
section
variable {w1 wX w2 w4 : World} {g : Nat} {M : PM15} {n : List UInt8} {pb : Nat} {A A2 : Option Addr} {N c n2 c2 K : Nat} {fb l2 : List UInt8} {left : Int} {down : Bool}
theorem Found15.here (h1 : PD15 w1 g M left down) {p : PF15} (hp : getK ltN M n = some p) (hs : p.sl = .slice A N c) : Found15 w1 w1 g M n p.b A N c p.f.2 p.f.1 := by
  have hf := h1.get hp
  obtain ⟨A0, hb⟩ := h1.box
  have hh : ∀ {k}, (p.b = k ∨ (Value.slice A N c).ownBlock = some k) → p.has k := fun h => by rw [← hs] at h; exact h
  exact ⟨Turn.refl _ _, by have := hf.box; rw [hs] at this; exact this, by have := hf.row; rw [hs] at this; exact this, fun k hk => .inl ⟨p, hp, hh hk⟩, fun i cs hi hk => h1.not_node (.inr ⟨_, get_mem15 hp, hh hk⟩) hi, fun hk => hf.ne_disk (hh hk) hb rfl⟩
theorem Found15.new (h1 : PD15 w1 g M left down) : Found15 w1 (w1.alloc (.cells #[.slice none 0 0, .int .i64 0] 67)) g M n w1.heap.size none 0 0 0 [] := by
  obtain ⟨A0, hb⟩ := h1.box
  refine ⟨(Turn.refl _ _).alloc _, Box.new w1 _ _, Bw15.nil _, fun k hk => ?_, fun i cs hi hk => ?_, fun hk => ?_⟩
  · rcases hk with e | e
    · exact .inr (Nat.le_of_eq e)
    · cases e
  · rcases hk with e | e
    · have := hi.lt; omega
    · cases e
  · rcases hk with e | e
    · have := hb.lt; omega
    · cases e
theorem Found15.ne (h : Found15 w1 wX g M n pb A N c K fb) : (some pb : Option Nat) ≠ (Value.slice A N c).ownBlock := fun e => by
  obtain ⟨cs, hb⟩ := h.row.typ e.symm
  exact absurd (box_typ15 hb h.box) (by decide)
theorem Found15.box2 (h : Found15 w1 wX g M n pb A N c K fb) (hg : wX.grownBy w2 (Value.slice A N c).ownBlock) : Box w2 pb 67 #[.slice A N c, .int .i64 (K : Int)] := h.box.grown hg h.ne
theorem Found15.turn3 (h : Found15 w1 wX g M n pb A N c K fb) (hg : wX.grownBy w2 (Value.slice A N c).ownBlock) (u : Value) : Turn (fun k => pb = k ∨ (Value.slice A N c).ownBlock = some k) w1 (w2.setCell ⟨pb, 0, none⟩ u) :=
  ((h.to.mono (fun _ _ f => f.elim)).grown hg (fun _ _ e => .inr e)).setCell (p := ⟨pb, 0, none⟩) (fun _ => .inl rfl) u
theorem Found15.map3 (h : Found15 w1 wX g M n pb A N c K fb) (h1 : PD15 w1 g M left down) (hg : wX.grownBy w2 (Value.slice A N c).ownBlock) (u : Value) : omp.MP (w2.setCell ⟨pb, 0, none⟩ u) g (.int .i64 left) (.bool down) (fm15 PF15.at M) :=
  h1.map.turn (h.turn3 hg u) h.root h.node
theorem Found15.put (h : Found15 w1 wX g M n pb A N c K fb) (h1 : PD15 w1 g M left down) (hg : wX.grownBy w2 (Value.slice A N c).ownBlock) (ho : Bw15 w2 (.slice A2 n2 c2) l2)
    (hat : (Value.slice A2 n2 c2).ownBlock = (Value.slice A N c).ownBlock ∨ (Value.slice A2 n2 c2).ownBlock = some wX.heap.size) (t4 : Turn (fun k => k = g) (w2.setCell ⟨pb, 0, none⟩ (.slice A2 n2 c2)) w4)
    (hm4 : omp.MP w4 g (.int .i64 left) (.bool down) (putK ltN (fm15 PF15.at M) n (some ⟨pb, 0, none⟩))) :
    PD15 w4 g (putK ltN M n ⟨pb, .slice A2 n2 c2, (l2, K)⟩) left down ∧ Turn (Foot15 g M) w1 w4 ∧ ∀ k, Foot15 g (putK ltN M n ⟨pb, .slice A2 n2 c2, (l2, K)⟩) k → Foot15 g M k ∨ w1.heap.size ≤ k := by
  have t3 := h.turn3 hg (.slice A2 n2 c2)
  have tall : Turn (fun k => k = g ∨ (pb = k ∨ (Value.slice A N c).ownBlock = some k)) w1 w4 := (t3.mono (fun _ _ e => .inr e)).trans t4 (fun _ _ e => .inl e)
  have hmine : ∀ k, PF15.has ⟨pb, .slice A2 n2 c2, (l2, K)⟩ k → Mine15 w1 M n k := fun k hk => by
    rcases hk with e | e
    · exact h.mine k (.inl e)
    · rcases hat with x | x
      · exact h.mine k (.inr (by rw [← x]; exact e))
      · have e2 := x.symm.trans e
        injection e2 with e2
        exact .inr (by have := h.to.size; omega)
  have hb2 := h.box2 hg
  have hb3 := hb2.set 0 (.slice A2 n2 c2)
  simp only [List.setIfInBounds_toArray, List.set_cons_zero] at hb3
  have hm3 := h.map3 h1 hg (.slice A2 n2 c2)
  obtain ⟨x3, A3, hr3, _⟩ := hm3.out
  have hrow3 : Bw15 (w2.setCell ⟨pb, 0, none⟩ (.slice A2 n2 c2)) (.slice A2 n2 c2) l2 := ho.turn (Turn.setCell (S := fun k => k = pb) (p := ⟨pb, 0, none⟩) (Turn.refl _ w2) (fun _ => rfl) _) (fun k hk e => by
    subst e
    obtain ⟨cs, hb⟩ := ho.typ hk
    exact absurd (box_typ15 hb hb2) (by decide))
  have hpd : PD15 w4 g (putK ltN M n ⟨pb, .slice A2 n2 c2, (l2, K)⟩) left down := by
    refine h1.mine tall (by rw [fm_put15]; exact hm4) ⟨hb3.turn t4 (fun e => h.root (.inl e)), hrow3.turn t4 (fun k hk e => ?_)⟩ (fun k _ hk => ?_) hmine
    · subst e
      obtain ⟨cs, hb⟩ := hrow3.typ hk
      exact absurd (box_typ15 hb hr3) (by decide)
    · rcases hk with e | e
      · exact .inl e
      · exact .inr (h.mine k e)
  refine ⟨hpd, tall.mono (fun k hk e => ?_), fun k hk => ?_⟩
  · rcases e with e | e
    · exact .inl e
    · rcases mine_foot15 (g := g) (h.mine k e) with x | x
      · exact x
      · omega
  · rcases foot_put15 h1.up hk with e | e
    · exact .inl e
    · exact mine_foot15 (hmine k e)
end

set_option maxHeartbeats 8000000 in
theorem append_any15 (n : List UInt8) (v : Value) (b : List UInt8) {w : World} {F : Nat → Prop} {g : Nat} {d : D15} (hm : DM15 w F g d) (hbd : BdP15 d) (hv : Rd w v b) :
    Calls Try.prog 21 #[.pointer (some ⟨g, 0, none⟩), sv15 n, v] w fun e w' => DoesP15 DM15 w F g (app15 d n b).1 (.int .i64 (app15 d n b).2) e w' := by
  have HM := Lib.hid hm
  obtain ⟨M, rfl, h, e⟩ := hm
  obtain ⟨A0, hb0⟩ := h.box
  have HF := Lib.hid (refuses_any15 hb0)
  have HFN := Lib.hid (find_any15 n h)
  have hk : getK ltN d.l n = (getK ltN M n).map PF15.f := by rw [← e]; exact fm_get15 _ _ _
  have HV := Lib.hid hv
  obtain ⟨Av, cv, rfl⟩ := hv.shape
  clear hv hb0
  cases hd : d.down with
  | true =>
    have HA : Hid (app15 d n b = (d, 13)) := by show _ = _; unfold app15; rw [if_pos hd]
    rw [hd] at HF
    unfold ref15 at HF
    clear h e hbd hk hd HFN
    go_enter Try.func21, Try.ntmps21
    go_wp2_with (go_at_call 40; refine HF.out.mono ?_; rintro e w1 ⟨rfl, rfl⟩)
    go_ret
    rw [HA.out]
    exact ⟨rfl, does_stay15 HM.out (Turn.refl _ _)⟩
  | false =>
    rw [hd] at HF
    unfold ref15 at HF
    cases hn : named15 n with
    | false =>
      have HA : Hid (app15 d n b = (d, 2)) := by show _ = _; unfold app15; rw [if_neg (by rw [hd]; decide), if_pos hn]
      have HNM := fun W => Lib.hid (named_any15 n W)
      rw [hn] at HNM
      clear h e hbd hk hd HFN hn
      go_enter Try.func21, Try.ntmps21
      go_wp2_with (first
        | (go_at_call 40; refine HF.out.mono ?_; rintro e w1 ⟨rfl, rfl⟩)
        | (go_at_call 41; refine (HNM _).out.mono ?_; rintro e w1 ⟨rfl, rfl⟩)
        | fail)
      go_ret
      rw [HA.out]
      exact ⟨rfl, does_stay15 HM.out (Turn.refl _ _)⟩
    | true =>
      have HNM := fun W => Lib.hid (named_any15 n W)
      rw [hn] at HNM
      have HAP : Hid (∀ f : FB15, file15 d n = f → app15 d n b = if 4194304 < f.1.length + b.length then (d, 7) else (cnt15 { d with l := putK ltN d.l n (f.1 ++ b, f.2) }, done15 (cnt15 d))) := by
        intro f hf
        unfold app15
        rw [if_neg (by rw [hd]; decide), if_neg (by rw [hn]; decide), hf]
      have hfl := hbd.ok.file n
      have HFL := Lib.hid hfl
      have HD := Lib.hid h
      have HE := Lib.hid e
      have HN := Lib.hid hd
      have HLF := Lib.hid hbd.ok.left
      have HL : Hid (M.length ≤ 9000) := by have := hbd.len; rw [← e, fm_len15] at this; exact this
      have HDW : Hid (∀ W, Turn (fun _ => False) w W → PD15 W g M d.left d.down) := fun W ht => h.later ht
      cases hp : getK ltN M n with
      | none =>
        rw [hp] at hk
        have HF15 : Hid (file15 d n = ([], 0)) := file_none15 hk
        have HFP : Hid (fp15 M n = none) := by show _ = _; unfold fp15; rw [hp]; rfl
        rw [HFP.out] at HFN
        clear h e hbd hk hd hn hp HFP hfl
        go_enter Try.func21, Try.ntmps21
        go_wp2_with (first
          | (go_at_call 40; refine HF.out.mono ?_; rintro e w1 ⟨rfl, rfl⟩)
          | (go_at_call 41; refine (HNM _).out.mono ?_; rintro e w1 ⟨rfl, rfl⟩)
          | fail)
        refine HFN.out.mono ?_
        rintro e w1 ⟨rfl, ht⟩
        have HTW := Lib.hid ht
        clear ht
        have HX := Lib.hid (Found15.new (n := n) (HDW.out w1 HTW.out))
        have hfl2 := HFL.out.2
        rw [HF15.out] at hfl2
        simp only [List.length_nil] at hfl2
        have HVX := Lib.hid (HV.out.later (HTW.out.trans HX.out.to (fun _ _ f => f)))
        by_cases hbig : (4194304 : Int) < (b.length : Int)
        · have HA : Hid (app15 d n b = (d, 7)) := by show _ = _; rw [HAP.out _ HF15.out]; exact if_pos (by simp only [List.length_nil]; omega)
          go_wp2_with fail
          go_ret
          rw [HA.out]
          exact ⟨rfl, does_stay15 HM.out (HTW.out.trans HX.out.to (fun _ _ f => f))⟩
        · have HA : Hid (app15 d n b = (cnt15 { d with l := putK ltN d.l n (b, 0) }, done15 (cnt15 d))) := by show _ = _; rw [HAP.out _ HF15.out]; exact if_neg (by simp only [List.length_nil]; omega)
          have HSM : Hid (([] : List UInt8).length + b.length ≤ 1000000000) := by show _ ≤ _; simp only [List.length_nil]; omega
          go_wp2_with (at_builtin; go_must (refine wpList_app15 _ rfl _ _ _ rfl _ ([] : List UInt8) rfl HX.out.row _ rfl b HVX.out.yields HSM.out ?_))
          intro A2 n2 c2 w2 ho hgr hat
          have hb2 := HX.out.box2 hgr
          have z0 := hb2.cell 0
          have zf0 := hb2.free 0
          have HO2 := Lib.hid ho; have HG2 := Lib.hid hgr; have HAT := Lib.hid hat
          clear ho hgr hat hb2
          go_wp2_with fail
          refine (omp.put_any n (some ⟨w1.heap.size, 0, none⟩) (HX.out.map3 (HDW.out _ HTW.out) HG2.out _) (by rw [fm_len15]; have := HL.out; omega)).mono ?_
          rintro e w4 ⟨rfl, hm4, t4⟩
          have HPD := Lib.hid (HX.out.put (HDW.out _ HTW.out) HG2.out HO2.out (by rw [World.size_alloc]; exact HAT.out) t4 hm4)
          clear t4 hm4 z0 zf0
          go_wp2_with fail
          have hpd := HPD.out.1
          obtain ⟨A9, hb9, hroot⟩ := hpd.root
          have HR := Lib.hid hroot
          rw [HN.out] at hb9
          refine (count_any15 44 #[] (enters_of Try.func44 (by kernel_rfl) rfl) hb9 HLF.out
            (fun w' => PD15 w' g (putK ltN M n ⟨w1.heap.size, .slice A2 n2 c2, (b, 0)⟩) (if d.left = 0 then 0 else d.left - 1) false ∧ Turn (Foot15 g (putK ltN M n ⟨w1.heap.size, .slice A2 n2 c2, (b, 0)⟩)) w4 w' ∧ ∀ k, Foot15 g (putK ltN M n ⟨w1.heap.size, .slice A2 n2 c2, (b, 0)⟩) k → Foot15 g (putK ltN M n ⟨w1.heap.size, .slice A2 n2 c2, (b, 0)⟩) k ∨ w4.heap.size ≤ k) (fun W _ tW bW => ?_)).mono ?_
          · refine (none_do15 W).mono ?_
            rintro e w' ⟨rfl, rfl⟩
            exact ⟨rfl, HR.out _ _ _ false tW (fun _ e => e) bW, tW.mono (fun _ _ e => .inl e), fun _ h => .inl h⟩
          · intro e w' hc
            have hz := counted15 (w := w4) (d := { d with l := putK ltN d.l n (b, 0) }) (L := putK ltN d.l n (b, 0)) HN.out (by rw [fm_put15, HE.out]) (Turn.refl _ w4) HR.out (by rw [fm_put15, HE.out]) hc
            rw [app_post15] at hz
            have hz2 := does_after15 hz ((HTW.out.mono (fun _ _ f => f.elim)).trans HPD.out.2.1 (fun _ _ e => e)) (fun k hk => (HPD.out.2.2 k hk).imp id (fun h => Nat.le_trans HTW.out.size h))
            obtain ⟨he, hrest⟩ := hz2
            subst he
            have HRS := Lib.hid hrest
            clear hrest hc hb9 hroot hpd hz
            go_wp2
            go_ret
            rw [HA.out]
            exact ⟨rfl, HRS.out⟩
      | some p =>
        rw [hp] at hk
        have HF15 : Hid (file15 d n = p.f) := file_some15 hk
        have HFP : Hid (fp15 M n = some ⟨p.b, 0, none⟩) := by show _ = _; unfold fp15; rw [hp]; rfl
        rw [HFP.out] at HFN
        obtain ⟨A, c, hs⟩ := (h.get hp).row.shape
        have HS := Lib.hid hs
        have HP := Lib.hid hp
        clear h e hbd hk hd hn hp HFP hfl hs
        go_enter Try.func21, Try.ntmps21
        go_wp2_with (first
          | (go_at_call 40; refine HF.out.mono ?_; rintro e w1 ⟨rfl, rfl⟩)
          | (go_at_call 41; refine (HNM _).out.mono ?_; rintro e w1 ⟨rfl, rfl⟩)
          | fail)
        refine HFN.out.mono ?_
        rintro e w1 ⟨rfl, ht⟩
        have HTW := Lib.hid ht
        clear ht
        have HX := Lib.hid (Found15.here (HDW.out w1 HTW.out) HP.out HS.out)
        have x0 := HX.out.box.cell 0
        have hfl2 := HFL.out.2
        rw [HF15.out] at hfl2
        have HVX := Lib.hid (HV.out.later (HTW.out.trans HX.out.to (fun _ _ f => f)))
        have hwr : IntKind.i64.wrap (4194304 - (p.f.1.length : Int)) = 4194304 - (p.f.1.length : Int) := IntWalk.i64_in _ (by omega)
        by_cases hbig : (4194304 : Int) - (p.f.1.length : Int) < (b.length : Int)
        · have HA : Hid (app15 d n b = (d, 7)) := by show _ = _; rw [HAP.out _ HF15.out]; exact if_pos (by skip; omega)
          go_wp2_with fail
          go_ret
          rw [HA.out]
          exact ⟨rfl, does_stay15 HM.out (HTW.out.trans HX.out.to (fun _ _ f => f))⟩
        · have HA : Hid (app15 d n b = (cnt15 { d with l := putK ltN d.l n (p.f.1 ++ b, p.f.2) }, done15 (cnt15 d))) := by show _ = _; rw [HAP.out _ HF15.out]; exact if_neg (by skip; omega)
          have HSM : Hid (p.f.1.length + b.length ≤ 1000000000) := by show _ ≤ _; omega
          go_wp2_with (at_builtin; go_must (refine wpList_app15 _ rfl _ _ _ rfl _ p.f.1 rfl HX.out.row _ rfl b HVX.out.yields HSM.out ?_))
          intro A2 n2 c2 w2 ho hgr hat
          have hb2 := HX.out.box2 hgr
          have z0 := hb2.cell 0
          have zf0 := hb2.free 0
          have HO2 := Lib.hid ho; have HG2 := Lib.hid hgr; have HAT := Lib.hid hat
          clear ho hgr hat hb2 x0
          go_wp2_with fail
          refine (omp.put_any n (some ⟨p.b, 0, none⟩) (HX.out.map3 (HDW.out _ HTW.out) HG2.out _) (by rw [fm_len15]; have := HL.out; omega)).mono ?_
          rintro e w4 ⟨rfl, hm4, t4⟩
          have HPD := Lib.hid (HX.out.put (HDW.out _ HTW.out) HG2.out HO2.out HAT.out t4 hm4)
          clear t4 hm4 z0 zf0
          go_wp2_with fail
          have hpd := HPD.out.1
          obtain ⟨A9, hb9, hroot⟩ := hpd.root
          have HR := Lib.hid hroot
          rw [HN.out] at hb9
          refine (count_any15 44 #[] (enters_of Try.func44 (by kernel_rfl) rfl) hb9 HLF.out
            (fun w' => PD15 w' g (putK ltN M n ⟨p.b, .slice A2 n2 c2, (p.f.1 ++ b, p.f.2)⟩) (if d.left = 0 then 0 else d.left - 1) false ∧ Turn (Foot15 g (putK ltN M n ⟨p.b, .slice A2 n2 c2, (p.f.1 ++ b, p.f.2)⟩)) w4 w' ∧ ∀ k, Foot15 g (putK ltN M n ⟨p.b, .slice A2 n2 c2, (p.f.1 ++ b, p.f.2)⟩) k → Foot15 g (putK ltN M n ⟨p.b, .slice A2 n2 c2, (p.f.1 ++ b, p.f.2)⟩) k ∨ w4.heap.size ≤ k) (fun W _ tW bW => ?_)).mono ?_
          · refine (none_do15 W).mono ?_
            rintro e w' ⟨rfl, rfl⟩
            exact ⟨rfl, HR.out _ _ _ false tW (fun _ e => e) bW, tW.mono (fun _ _ e => .inl e), fun _ h => .inl h⟩
          · intro e w' hc
            have hz := counted15 (w := w4) (d := { d with l := putK ltN d.l n (p.f.1 ++ b, p.f.2) }) (L := putK ltN d.l n (p.f.1 ++ b, p.f.2)) HN.out (by rw [fm_put15, HE.out]) (Turn.refl _ w4) HR.out (by rw [fm_put15, HE.out]) hc
            rw [app_post15] at hz
            have hz2 := does_after15 hz ((HTW.out.mono (fun _ _ f => f.elim)).trans HPD.out.2.1 (fun _ _ e => e)) (fun k hk => (HPD.out.2.2 k hk).imp id (fun h => Nat.le_trans HTW.out.size h))
            obtain ⟨he, hrest⟩ := hz2
            subst he
            have HRS := Lib.hid hrest
            clear hrest hc hb9 hroot hpd hz
            go_wp2
            go_ret
            rw [HA.out]
            exact ⟨rfl, HRS.out⟩

end Go.Proofs.Ytclljogbingjiaa

/-
  A range over a function that may stand in an iterator itself: what an iterator promises ('Feeds'), where a round tells that what holds no cells, behind the record of its loop, is as it was; and the statement's law ('over2').
-/
namespace Go.Proofs.Ytclljogbingjiaa
open Go.RowKit

/-- What holds no cells, from block B on, is as it was. -/
structure Still (B : Nat) (W W' : World) : Prop where
  size : W.heap.size ≤ W'.heap.size
  same : ∀ (k : Nat) (o : Obj), B ≤ k → W.heap[k]? = some o → o.isCells = false → W'.heap[k]? = some o
theorem Still.refl (B : Nat) (W : World) : Still B W W := ⟨Nat.le_refl _, fun _ _ _ h _ => h⟩
theorem Still.trans {B : Nat} {W1 W2 W3 : World} (h : Still B W1 W2) (k : Still B W2 W3) : Still B W1 W3 := ⟨Nat.le_trans h.size k.size, fun i o hb hi ho => k.same i o hb (h.same i o hb hi ho) ho⟩
theorem Still.le {B B' : Nat} {W W' : World} (h : Still B W W') (hb : B ≤ B') : Still B' W W' := ⟨h.size, fun k o hk hw ho => h.same k o (Nat.le_trans hb hk) hw ho⟩
theorem Still.turned {B : Nat} {W W' : World} (h : Turn (fun _ => False) W W') : Still B W W' := ⟨h.size, fun k _ _ hk _ => (h.block k (Array.getElem?_eq_some_iff.1 hk).1 (fun f => f)).trans hk⟩
theorem Still.others {B : Nat} {W W' : World} (h : KeepsOthers W W') : Still B W W' := ⟨h.size, fun k o _ hk ho => h.same k o hk ho⟩
theorem Still.setCell {B : Nat} (W : World) (a : Addr) (v : Value) : Still B W (W.setCell a v) := Still.others (KeepsOthers.setCell W a v)
theorem Still.put {B : Nat} (W : World) (l : Nat) (o : Obj) (hl : l < B) : Still B W (W.putObj l o) := ⟨by simp [World.putObj], fun k _ hk hw _ => (World.putObj_heap_other (by omega)).trans hw⟩

/-- What a round's body owes. -/
def postF {α : Type} (B : Nat) (S : Nat → Prop) (I : List α → World → Prop) (Ix : Code → List α → World → Prop) (xs : List α) (W : World) : Exit → Act → World → Prop
  | .normal, _, W' => Still B W W' ∧ Turn S W W' ∧ I xs W'
  | .ret, _, W' => Still B W W' ∧ Ix .ret xs W'
  | .exit id, _, W' => Still B W W' ∧ Ix (.exit id) xs W'
  | .goto t, _, W' => Still B W W' ∧ Ix (.goto t) xs W'
  | .panic _, _, _ => False
  | .outgrown, _, _ => False

theorem Holds.le {β : Type} {D D' : Nat} {I : β → World → Prop} (h : Holds D I) (hd : D ≤ D') : Holds D' I :=
  fun s A B hs ht => h s A B hs (ht.mono (fun _ _ ⟨h1, o, h2, h3⟩ => ⟨Nat.le_trans hd h1, o, h2, h3⟩))

/-- The contract of an iterator value: what it hands a round ('Gv'), what a round that goes on may turn ('S'), what has come when it is done ('All'), or stopped ('Part'). -/
def Feeds {α : Type} (n : Nat) (g : Nat) (lb : Array Value) (encs : α → Array Value) (S : Nat → Prop) (Gv : List α → α → World → Prop) (All Part : List α → Prop) (w : World) : Prop :=
  ∀ (l : Nat) (J Jx : List α → World → Prop) (W : World), Turn (fun _ => False) w W → l < W.heap.size → (∀ k, S k → k < W.heap.size) → Holds W.heap.size J → Holds W.heap.size Jx →
    (∀ pre x W1, J pre W1 → Gv pre x W1 → YieldAt Fence.wide (n - 1) Try.prog l (encs x) W1 fun e W' =>
      (e = .returned (.bool true) ∧ J (pre ++ [x]) W' ∧ Turn S W1 W' ∧ Still (l + 1) W1 W') ∨ (e = .returned (.bool false) ∧ Jx (pre ++ [x]) W' ∧ Still (l + 1) W1 W')) →
    J [] W →
    CallsIn Fence.wide n Try.prog g (#[.func (.yield l) #[] #[]] ++ lb) W fun e W' => (∃ v, e = .returned v) ∧ ((∃ xs, All xs ∧ J xs W') ∨ (∃ pre, Part pre ∧ Jx pre W'))

/-- 'for .. := range g { body }' over an iterator that has such a contract. -/
theorem over2 {α : Type} {n : Nat} {g : Operand} {ps : Array Tmp} {assign body : Code} {Q : Exit → Act → World → Prop} {a : Act} {w w0 : World} (h1 : 1 ≤ n)
    {gf : Nat} {lb : Array Value} (hg : a.eval g = .func (.func gf) #[] lb) (eg : ∀ args w, (callFunc gf args).run Try.prog w = .ok (.enter gf args) w)
    {encs : α → Array Value} {S : Nat → Prop} {Gv : List α → α → World → Prop} {All Part : List α → Prop} (hseq : Feeds (n - 1) gf lb encs S Gv All Part w0) (hb0 : Turn (fun _ => False) w0 w)
    (hS : S (w.heap.size + 1)) (hS2 : ∀ k, S k → k < w.heap.size + 2) (hG : ∀ pre, Holds w.heap.size (Gv pre)) (hps : ∀ x, (encs x).size = ps.size)
    (I : List α → World → Prop) (Ix : Code → List α → World → Prop) (hI : Holds w.heap.size I) (hIx : ∀ c, Holds w.heap.size (Ix c)) (h0 : I [] w) (a₁ : α → Act)
    (hassign : ∀ (l : Nat) (x : α) (W : World) (K : Act → World → Prop), K (a₁ x) W →
      assign.wpIn (Fence.wide.inRound l) (n - 1 - 1) Try.prog (Exit.then K (fun _ _ _ => False)) { tmps := (ps.zip (encs x)).foldl (fun t (p, v) => t.setIfInBounds p v) a.tmps, defers := [] } W)
    (hbody : ∀ (l : Nat) (pre : List α) (x : α) (W : World), I pre W → Gv pre x W → body.wpIn (Fence.wide.inRound l) (n - 1 - 1) Try.prog (postF w.heap.size S I Ix (pre ++ [x]) W) (a₁ x) W)
    (hdone : ∀ (D : Nat) (xs : List α) (W : World), w.heap.size ≤ D → All xs → I xs W → W.heap[D]? = some (.deferred (some [])) → Q .normal { a with defers := { target := .collected D, args := #[] } :: a.defers } W)
    (hstop : ∀ (D : Nat) (c : Code) (pre : List α) (W : World), w.heap.size ≤ D → Part pre → Ix c pre W → W.heap[D]? = some (.deferred (some [])) → c.wpIn Fence.wide n Try.prog Q { a with defers := { target := .collected D, args := #[] } :: a.defers } W) :
    (Code.rangeFunc g ps assign body).wpIn Fence.wide n Try.prog Q a w := by
  refine wpIn_rangeFunc fun fn hfn => ?_
  obtain ⟨R, hR⟩ : ∃ R : LoopState → Option Code → Obj, R = fun st pe => .loop { state := st, pending := pe, fn, tmps := a.tmps, params := ps, assign, body, defers := w.heap.size } := ⟨_, rfl⟩
  -- the two blocks of the statement: the rounds' deferred calls, and its record, in a state
  obtain ⟨Bk, hBk⟩ : ∃ Bk : LoopState → Option Code → World → Prop, Bk = fun st pe W => W.heap[w.heap.size + 1]? = some (R st pe) ∧ W.heap[w.heap.size]? = some (.deferred (some [])) := ⟨_, rfl⟩
  obtain ⟨W1, hW1⟩ : ∃ W1, (w.alloc (.deferred (some []))).alloc (R .ready none) = W1 := ⟨_, rfl⟩
  have hsz : W1.heap.size = w.heap.size + 2 := by rw [← hW1]; simp
  have t1 : Turn (fun _ => False) w W1 := by rw [← hW1]; exact ((Turn.refl _ w).alloc _).alloc _
  have k1 : Bk .ready none W1 := by
    rw [hBk]
    refine ⟨?_, ?_⟩
    · have := World.alloc_heap_new (w.alloc (.deferred (some []))) (R .ready none)
      rw [World.size_alloc] at this
      rw [← hW1]
      exact this
    · rw [← hW1]
      exact (Below.heap_alloc _ _ _ (by simp)).trans (World.alloc_heap_new w _)
  have move : ∀ {D : Nat} {st : LoopState} {pe : Option Code} {A B : World}, w.heap.size + 2 ≤ D → Turn (odd D A) A B → Bk st pe A → Bk st pe B := by
    intro D st pe A B hD ht hk
    rw [hBk] at hk ⊢
    have far : ∀ k, k < w.heap.size + 2 → k < A.heap.size → B.heap[k]? = A.heap[k]? := fun k hk1 hk2 => ht.block k hk2 (fun s => by have := s.1; omega)
    exact ⟨(far _ (by omega) (Array.getElem?_eq_some_iff.1 hk.1).1).trans hk.1, (far _ (by omega) (Array.getElem?_eq_some_iff.1 hk.2).1).trans hk.2⟩
  have put : ∀ {st st' : LoopState} {pe pe' : Option Code} {A : World}, Bk st pe A → Bk st' pe' (A.putObj (w.heap.size + 1) (R st' pe')) ∧ Turn (odd w.heap.size A) A (A.putObj (w.heap.size + 1) (R st' pe')) ∧ Turn S A (A.putObj (w.heap.size + 1) (R st' pe')) := by
    intro st st' pe pe' A hk
    rw [hBk] at hk ⊢
    refine ⟨⟨World.putObj_heap_same (Array.getElem?_eq_some_iff.1 hk.1).1, (World.putObj_heap_other (by omega)).trans hk.2⟩, Turn.putObj _ _ _ ⟨by omega, _, hk.1, ?_⟩, Turn.putObj _ _ _ hS⟩
    rw [hR]
    rfl
  have keepS : True := trivial
  have keep : ∀ {st : LoopState} {pe : Option Code} {A B : World}, Still w.heap.size A B → Bk st pe A → Bk st pe B := by
    intro st pe A B h hk
    rw [hBk] at hk ⊢
    exact ⟨h.same _ _ (Nat.le_succ _) hk.1 (by rw [hR]; rfl), h.same _ _ (Nat.le_refl _) hk.2 rfl⟩
  refine ⟨w.heap.size + 1, [{ target := .collected w.heap.size, args := #[] }], W1, { target := .fn (.func gf) lb, args := #[.func (.yield (w.heap.size + 1)) #[] #[]] }, W1, gf,
    #[.func (.yield (w.heap.size + 1)) #[] #[]] ++ lb, W1, ?_, ?_, ?_, ?_, fun _ => h1, ?_⟩
  · rw [← hW1, hR]
    exact run_enterLoop_outer _ _ _ _ _
  · simp only [resolve, hg]
    simp [go_sem]
  · intro f' _
    trivial
  · simp [invoke, go_sem, eg]
  · refine (hseq (w.heap.size + 1) (fun pre W => I pre W ∧ Bk .ready none W) (fun pre W => ∃ c, Ix c pre W ∧ Bk .done (some c) W) W1 (hb0.trans t1 (fun _ _ f => f)) (by omega) (fun k hk => by have := hS2 k hk; omega)
      (fun s A B hs ht => ⟨(hI.le (by omega)) s A B hs.1 ht, move (by omega) ht hs.2⟩)
      (fun s A B hs ht => by
        obtain ⟨c, hc, hk⟩ := hs
        exact ⟨c, ((hIx c).le (by omega)) s A B hc ht, move (by omega) ht hk⟩)
      ?_ ⟨hI _ _ _ h0 t1.none, k1⟩).mono ?_
    · rintro pre x W ⟨hi, hk⟩ hgv
      have hl : W.heap[w.heap.size + 1]? = some (R .ready none) := by rw [hBk] at hk; exact hk.1
      rw [hR] at hl
      have hy := run_yield (P := Try.prog) (args := encs x) hl (hps x)
      refine ⟨fn, _, assign, body, hy, roundIn_of_wpIn hfn (hassign _ x W _ ⟨_, run_beginRound hl rfl, ?_⟩)⟩
      have hp := put (st' := .busy) (pe' := none) hk
      rw [hR] at hp
      refine wpIn_mono (hbody _ pre x _ (hI _ _ _ hi hp.2.1) (hG _ _ _ _ hgv hp.2.1)) ?_
      have ends : ∀ (jump : Option Code) (W3 : World), Still w.heap.size (W.putObj (w.heap.size + 1) (.loop { state := .busy, pending := none, fn, tmps := a.tmps, params := ps, assign, body, defers := w.heap.size })) W3 →
          ∃ W4, (Instr.endRound (w.heap.size + 1) jump).run Try.prog W3 = .ok (.bool jump.isNone) W4 ∧ Bk (if jump.isNone then .ready else .done) jump W4 ∧ Turn (odd w.heap.size W3) W3 W4 ∧ Turn S W3 W4 ∧ Still (w.heap.size + 1 + 1) W W4 := by
        intro jump W3 hk3
        have h3 := keep hk3 hp.1
        have hl3 : W3.heap[w.heap.size + 1]? = some (R .busy none) := by rw [hBk] at h3; exact h3.1
        have h4 := put (st' := if jump.isNone then .ready else .done) (pe' := jump) h3
        rw [hR] at hl3 h4
        exact ⟨_, run_endRound jump hl3, h4.1, h4.2.1, h4.2.2, ((Still.put W _ _ (Nat.lt_succ_self _)).trans (hk3.le (by omega))).trans (Still.put W3 _ _ (Nat.lt_succ_self _))⟩
      rintro e a3 W3 hpost
      cases e with
      | normal =>
        obtain ⟨hk3, ht3, hi3⟩ := hpost
        obtain ⟨W4, hr, hb4, ht4, hu4, hs4⟩ := ends none W3 hk3
        exact ⟨_, _, hr, .inl ⟨rfl, ⟨hI _ _ _ hi3 ht4, hb4⟩, (hp.2.2.trans ht3 (fun _ _ s => s)).trans hu4 (fun _ _ s => s), hs4⟩⟩
      | ret =>
        obtain ⟨hk3, hi3⟩ := hpost
        obtain ⟨W4, hr, hb4, ht4, hu4, hs4⟩ := ends (some .ret) W3 hk3
        exact ⟨_, _, hr, .inr ⟨rfl, ⟨.ret, hIx _ _ _ _ hi3 ht4, hb4⟩, hs4⟩⟩
      | exit id =>
        obtain ⟨hk3, hi3⟩ := hpost
        obtain ⟨W4, hr, hb4, ht4, hu4, hs4⟩ := ends (some (.exit id)) W3 hk3
        exact ⟨_, _, hr, .inr ⟨rfl, ⟨.exit id, hIx _ _ _ _ hi3 ht4, hb4⟩, hs4⟩⟩
      | goto t =>
        obtain ⟨hk3, hi3⟩ := hpost
        obtain ⟨W4, hr, hb4, ht4, hu4, hs4⟩ := ends (some (.goto t)) W3 hk3
        exact ⟨_, _, hr, .inr ⟨rfl, ⟨.goto t, hIx _ _ _ _ hi3 ht4, hb4⟩, hs4⟩⟩
      | panic ch => exact hpost.elim
      | outgrown => exact hpost.elim
    · have shut : ∀ {st : LoopState} {pe : Option Code} {W2 : World}, st ≠ .busy → Bk st pe W2 → ∃ W3, (Instr.endLoop (w.heap.size + 1)).run Try.prog W2 = .ok pe W3 ∧ W3.heap[w.heap.size]? = some (.deferred (some [])) ∧ Turn (odd w.heap.size W2) W2 W3 := by
        intro st pe W2 hst hk
        have hl : W2.heap[w.heap.size + 1]? = some (R st pe) := by rw [hBk] at hk; exact hk.1
        have h4 := put (st' := .exhausted) (pe' := pe) hk
        have h5 : (W2.putObj (w.heap.size + 1) (R .exhausted pe)).heap[w.heap.size]? = some (.deferred (some [])) := by have h6 := h4.1; rw [hBk] at h6; exact h6.2
        rw [hR] at hl h4 h5
        exact ⟨_, run_endLoop hl hst, h5, h4.2.1⟩
      rintro e W2 ⟨⟨v, rfl⟩, (⟨xs, hA, hi, hk⟩ | ⟨pre, hP, c, hi, hk⟩)⟩
      · obtain ⟨W3, hr, hd, ht⟩ := shut (by simp) hk
        exact ⟨none, W3, hr, hdone _ xs _ (Nat.le_refl _) hA (hI _ _ _ hi ht) hd⟩
      · obtain ⟨W3, hr, hd, ht⟩ := shut (by simp) hk
        exact ⟨some c, W3, hr, hstop _ c pre _ (Nat.le_refl _) hP (hIx c _ _ _ hi ht) hd⟩

end Go.Proofs.Ytclljogbingjiaa
