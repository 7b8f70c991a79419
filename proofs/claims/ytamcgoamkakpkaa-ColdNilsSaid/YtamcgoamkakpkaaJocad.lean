/-
  Texts laid one behind the other: Q4l Q4m.
-/
import Derived.Test.YtamcgoamkakpkaaJocac

/-
  Stage 16: what is asked of the program's store, whatever it lies in (Prog16); both stores; what holds of a store.
-/
namespace Go.Proofs.Ytamcgoamkakpkaa
open Go.RowKit

set_option maxRecDepth 100000

/-- What holds of a store. -/
structure OkC16 (s : C16) : Prop where
  up : Up ltN s.l
  objs : ∀ p ∈ s.l, p.2.length ≤ 4194304
  turns : s.t.length ≤ 1000
theorem drop_sub16 {V : Type} {L : List (List UInt8 × V)} {k : List UInt8} {p : List UInt8 × V} (h : p ∈ dropK ltN L k) : p ∈ L := by
  unfold dropK at h
  rcases List.mem_append.1 h with h | h
  · exact List.mem_of_mem_take h
  · exact List.mem_of_mem_drop h
theorem OkC16.new : OkC16 C16.new := ⟨up_nil, (fun _ hp => nomatch hp), Nat.zero_le _⟩
theorem OkC16.turn {s : C16} (h : OkC16 s) (n : List UInt8) : OkC16 (turnS16 s n) := ⟨by rw [turnS_l16]; exact h.up, by rw [turnS_l16]; exact h.objs, Nat.le_trans (turnS_t16 s n) h.turns⟩
theorem OkC16.put {s : C16} (h : OkC16 s) (n b : List UInt8) : OkC16 (put16 s n b).1 := by
  unfold put16
  split
  · split
    · exact h.turn n
    · rename_i h2
      exact ⟨put_up rises_bytes h.up n b, fun p hp => by
        rcases (put_mem rises_bytes h.up).1 hp with e | ⟨e, _⟩
        · subst e; show b.length ≤ _; omega
        · exact h.objs p e, (h.turn n).turns⟩
  · exact h.turn n
theorem OkC16.get {s : C16} (h : OkC16 s) (n : List UInt8) : OkC16 (get16 s n).1 := by
  unfold get16
  split
  · split <;> exact h.turn n
  · exact h.turn n
theorem OkC16.del {s : C16} (h : OkC16 s) (n : List UInt8) : OkC16 (del16 s n).1 := by
  unfold del16
  split
  · split
    · exact ⟨drop_up rises_bytes h.up n, fun p hp => h.objs p (drop_sub16 hp), (h.turn n).turns⟩
    · exact h.turn n
  · exact h.turn n
theorem OkC16.fail {s : C16} (h : OkC16 s) (l : List Bool) : OkC16 (fail16 s l) := ⟨h.up, h.objs, by
  show (s.t ++ l.take (1000 - s.t.length)).length ≤ 1000
  have := h.turns
  rw [List.length_append, List.length_take]
  omega⟩
theorem put_len16 (s : C16) (n b : List UInt8) : (put16 s n b).1.l.length ≤ s.l.length + 1 := by
  unfold put16
  split
  · split
    · rw [turnS_l16]; omega
    · exact put_len _ _ _
  · show (turnS16 s n).l.length ≤ _
    rw [turnS_l16]; omega
theorem get_len16 (s : C16) (n : List UInt8) : (get16 s n).1.l.length ≤ s.l.length := by
  unfold get16
  split
  · split <;> (show (turnS16 s n).l.length ≤ _; rw [turnS_l16]; exact Nat.le_refl _)
  · show (turnS16 s n).l.length ≤ _
    rw [turnS_l16]; exact Nat.le_refl _
theorem del_len16 (s : C16) (n : List UInt8) : (del16 s n).1.l.length ≤ s.l.length := by
  unfold del16
  split
  · split
    · exact drop_len _ _
    · show (turnS16 s n).l.length ≤ _
      rw [turnS_l16]; exact Nat.le_refl _
  · show (turnS16 s n).l.length ≤ _
    rw [turnS_l16]; exact Nat.le_refl _
theorem get_bytes16 {s : C16} (h : OkC16 s) (n : List UInt8) : (get16 s n).2.1.length ≤ 4194304 := by
  unfold get16
  split
  · split
    · exact Nat.zero_le _
    · rename_i b hb
      have h2 : hasK ltN s.l n = true := by rw [has_get, hb]; rfl
      obtain ⟨u, hu, e⟩ := get_has16 h2
      rw [hb] at e
      cases e
      exact h.objs _ (List.mem_of_getElem? hu)
  · exact Nat.zero_le _
/-- The bounds within which the program is called. -/
structure BdP16 (s : C16) : Prop where
  ok : OkC16 s
  len : s.l.length ≤ 9000
/-- The store behind an act. -/
def step16 (s : C16) (a : AC16) : C16 := if a.kind = 0 then (put16 s a.nm a.b).1 else if a.kind = 1 then (get16 s a.nm).1 else if a.kind = 2 then (del16 s a.nm).1 else fail16 s a.t
theorem OkC16.step {s : C16} (h : OkC16 s) (a : AC16) : OkC16 (step16 s a) := by
  unfold step16
  split
  · exact h.put _ _
  · split
    · exact h.get _
    · split
      · exact h.del _
      · exact h.fail _
theorem step_len16 (s : C16) (a : AC16) : (step16 s a).l.length ≤ s.l.length + 1 := by
  unfold step16
  split
  · exact put_len16 _ _ _
  · split
    · have := get_len16 s a.nm; omega
    · split
      · have := del_len16 s a.nm; omega
      · show s.l.length ≤ _; omega

/-- Behind a call that changes the program's store alone. -/
def DoesP16 (M : World → (Nat → Prop) → Nat → C16 → Prop) (w : World) (F : Nat → Prop) (g : Nat) (s : C16) (v : Value) (e : Ending) (w' : World) : Prop :=
  e = .returned v ∧ ∃ F', M w' F' g s ∧ Turn F w w' ∧ ∀ k, F' k → F k ∨ w.heap.size ≤ k
def GetsP16 (M : World → (Nat → Prop) → Nat → C16 → Prop) (w : World) (F : Nat → Prop) (g : Nat) (s : C16) (r : List UInt8 × Int) (e : Ending) (w' : World) : Prop :=
  ∃ v, e = .returned (.tuple #[v, .int .i64 r.2]) ∧ Rd w' v r.1 ∧ (∀ k, v.ownBlock = some k → w.heap.size ≤ k) ∧ ∃ F', M w' F' g s ∧ Turn F w w' ∧ (∀ k, F' k → F k ∨ w.heap.size ≤ k) ∧ ∀ k, v.ownBlock = some k → ¬ F' k
def NewP16 (M : World → (Nat → Prop) → Nat → C16 → Prop) (w : World) (e : Ending) (w' : World) : Prop :=
  ∃ g F, e = .returned (.pointer (some ⟨g, 0, none⟩)) ∧ M w' F g C16.new ∧ Turn (fun _ => False) w w' ∧ ∀ k, F k → w.heap.size ≤ k
def SaysP16 (w : World) (v : Value) (e : Ending) (w' : World) : Prop := e = .returned v ∧ Turn (fun _ => False) w w'
/-- M w F g s: the program's store s at block g, in the blocks F. -/
structure Prog16 (M : World → (Nat → Prop) → Nat → C16 → Prop) : Prop where
  lt : ∀ {w F g s}, M w F g s → ∀ k, F k → k < w.heap.size
  later : ∀ {w w' F g s}, M w F g s → Turn (fun _ => False) w w' → M w' F g s
  apart : ∀ {w w' F g s r cs}, M w F g s → Turn (fun k => k = r) w w' → ¬ F r → Box w r 31 cs → M w' F g s
  new : ∀ w, Calls Try.prog 8 #[] w fun e w' => NewP16 M w e w'
  put : ∀ {w F g s} (n : List UInt8) (v : Value) (b : List UInt8), M w F g s → BdP16 s → Rd w v b → (b = [] ∨ ∀ k, v.ownBlock = some k → ¬ F k) → b.length ≤ 1000000 →
    Calls Try.prog 18 #[.pointer (some ⟨g, 0, none⟩), sv16 n, v] w fun e w' => DoesP16 M w F g (put16 s n b).1 (.int .i64 (put16 s n b).2) e w'
  get : ∀ {w F g s} (n : List UInt8), M w F g s → BdP16 s →
    Calls Try.prog 20 #[.pointer (some ⟨g, 0, none⟩), sv16 n] w fun e w' => GetsP16 M w F g (get16 s n).1 (get16 s n).2 e w'
  del : ∀ {w F g s} (n : List UInt8), M w F g s → BdP16 s →
    Calls Try.prog 21 #[.pointer (some ⟨g, 0, none⟩), sv16 n] w fun e w' => DoesP16 M w F g (del16 s n).1 (.int .i64 (del16 s n).2) e w'
  fail : ∀ {w F g s} (v : Value) (l : List Bool), M w F g s → BdP16 s → RdE EB16 w v l → (l = [] ∨ ∀ k, v.ownBlock = some k → ¬ F k) → l.length ≤ 10000 →
    Calls Try.prog 19 #[.pointer (some ⟨g, 0, none⟩), v] w fun e w' => DoesP16 M w F g (fail16 s l) (.tuple #[]) e w'
  has : ∀ {w F g s} (n : List UInt8), M w F g s → BdP16 s → Calls Try.prog 10 #[.pointer (some ⟨g, 0, none⟩), sv16 n] w fun e w' => SaysP16 w (.bool (hasK ltN s.l n)) e w'
  waits : ∀ {w F g s}, M w F g s → BdP16 s → Calls Try.prog 12 #[.pointer (some ⟨g, 0, none⟩)] w fun e w' => SaysP16 w (.int .i64 (s.t.length : Int)) e w'
  bytes : ∀ {w F g s}, M w F g s → BdP16 s → Calls Try.prog 13 #[.pointer (some ⟨g, 0, none⟩)] w fun e w' => SaysP16 w (.int .i64 (bytes16 s.l)) e w'
  names : ∀ {w F g s}, M w F g s → BdP16 s → Calls Try.prog 16 #[.pointer (some ⟨g, 0, none⟩)] w fun e w' => Names16 w (s.l.map (·.1)) e w'

/-- Both stores. -/
structure Both16 (M : World → (Nat → Prop) → Nat → C16 → Prop) (w : World) (F : Nat → Prop) (g r : Nat) (sl tl : Value) (s : C16) : Prop where
  prog : M w F g s
  doc : RD16 w r sl tl s
  apart : ¬ F r
  row : ∀ k, sl.ownBlock = some k → ¬ F k
  trow : ∀ k, tl.ownBlock = some k → ¬ F k
def Acted16 (M : World → (Nat → Prop) → Nat → C16 → Prop) (w : World) (F : Nat → Prop) (g r : Nat) (s : C16) (e : Ending) (w' : World) : Prop :=
  e = .returned (.bool true) ∧ ∃ F' sl' tl', Both16 M w' F' g r sl' tl' s ∧ Turn (fun k => F k ∨ k = r) w w' ∧ ∀ k, F' k → F k ∨ w.heap.size ≤ k
/-- The program's call, then the document's. -/
theorem both_next16 {M : World → (Nat → Prop) → Nat → C16 → Prop} (hP : Prog16 M) {w w1 w2 : World} {F F1 : Nat → Prop} {g r : Nat} {sl sl2 tl tl2 : Value} {s s2 : C16} (h : Both16 M w F g r sl tl s)
    (h1 : M w1 F1 g s2) (t1 : Turn F w w1) (f1 : ∀ k, F1 k → F k ∨ w.heap.size ≤ k) (h2 : RD16 w2 r sl2 tl2 s2) (t2 : Turn (fun k => k = r) w1 w2) (o2 : Own16 w1 sl sl2) (p2 : Own16 w1 tl tl2) :
    Both16 M w2 F1 g r sl2 tl2 s2 ∧ Turn (fun k => F k ∨ k = r) w w2 := by
  have hr : ¬ F1 r := fun hk => by
    rcases f1 r hk with x | x
    · exact h.apart x
    · have := h.doc.box.lt
      omega
  have key : ∀ {v v2 : Value}, Own16 w1 v v2 → (∀ k, v.ownBlock = some k → ¬ F k) → (∀ k, v.ownBlock = some k → k < w.heap.size) → ∀ k, v2.ownBlock = some k → ¬ F1 k := fun o hf hl k hk hk1 => by
    rcases o k hk with x | x
    · rcases f1 k hk1 with y | y
      · exact hf k x y
      · have := hl k x
        omega
    · have := hP.lt h1 k hk1
      omega
  exact ⟨⟨hP.apart h1 t2 hr (h.doc.box.turn t1 h.apart), h2, hr, key o2 h.row h.doc.lt, key p2 h.trow h.doc.tlt⟩, (t1.mono (fun _ _ f => .inl f)).trans t2 (fun _ _ e => .inr e)⟩
theorem both_later16 {M : World → (Nat → Prop) → Nat → C16 → Prop} (hP : Prog16 M) {w w1 : World} {F : Nat → Prop} {g r : Nat} {sl tl : Value} {s : C16} (h : Both16 M w F g r sl tl s) (t1 : Turn (fun _ => False) w w1) : Both16 M w1 F g r sl tl s :=
  ⟨hP.later h.prog t1, h.doc.later t1, h.apart, h.row, h.trow⟩
theorem both_doc16 {M : World → (Nat → Prop) → Nat → C16 → Prop} {w w1 : World} {F : Nat → Prop} {g r : Nat} {sl tl : Value} {s : C16} (h : Both16 M w F g r sl tl s) (t1 : Turn F w w1) : RD16 w1 r sl tl s := h.doc.turn t1 h.apart h.row h.trow

/-- What an act's walk starts from. -/
structure Act16 (M : World → (Nat → Prop) → Nat → C16 → Prop) (w : World) (F : Nat → Prop) (g r : Nat) (sl tl : Value) (s : C16) (a : AC16) : Prop where
  prog : Prog16 M
  both : Both16 M w F g r sl tl s
  bd : BdP16 s
  ok : AcOk16 w a
  far : a.b = [] ∨ ∀ k, a.sl.ownBlock = some k → ¬ (F k ∨ k = r)
  tfar : a.t = [] ∨ ∀ k, a.ts.ownBlock = some k → ¬ (F k ∨ k = r)
  short : a.nm.length ≤ 60 ∧ a.b.length ≤ 100 ∧ a.t.length ≤ 1100
theorem rd_keep16 {S : Nat → Prop} {w w' : World} {v : Value} {b : List UInt8} (h : Rd w v b) (ht : Turn S w w') (hf : b = [] ∨ ∀ k, v.ownBlock = some k → ¬ S k) : Rd w' v b := by
  rcases hf with rfl | hf
  · obtain ⟨A, c, rfl⟩ := h.shape
    obtain ⟨A', c', e, h1, h2, h3⟩ := h
    exact ⟨A', c', e, h1, h2, fun ad ea j b hj => by simp at hj⟩
  · exact h.turn ht hf
theorem rde_keep16 {S : Nat → Prop} {w w' : World} {v : Value} {l : List Bool} (h : RdE EB16 w v l) (ht : Turn S w w') (hf : l = [] ∨ ∀ k, v.ownBlock = some k → ¬ S k) : RdE EB16 w' v l := by
  rcases hf with rfl | hf
  · exact rd_empty h
  · exact h.turn ht hf
section
variable {M : World → (Nat → Prop) → Nat → C16 → Prop} {w : World} {F : Nat → Prop} {g r : Nat} {sl tl : Value} {s : C16} {a : AC16}
theorem Act16.mem (h : Act16 M w F g r sl tl s a) {W : World} (ht : Turn (fun _ => False) w W) : M W F g s := h.prog.later h.both.prog ht
theorem Act16.rd (h : Act16 M w F g r sl tl s a) {W W1 : World} (ht : Turn (fun _ => False) w W) (t1 : Turn F W W1) : RD16 W1 r sl tl s := both_doc16 (both_later16 h.prog h.both ht) t1
theorem Act16.bytes (h : Act16 M w F g r sl tl s a) {W : World} (ht : Turn (fun _ => False) w W) : Rd W a.sl a.b := h.ok.b.later ht
theorem Act16.bytes1 (h : Act16 M w F g r sl tl s a) {W W1 : World} (ht : Turn (fun _ => False) w W) (t1 : Turn F W W1) : Rd W1 a.sl a.b := rd_keep16 (h.bytes ht) t1 (h.far.imp id (fun f k hk x => f k hk (.inl x)))
theorem Act16.turns1 (h : Act16 M w F g r sl tl s a) {W W1 : World} (ht : Turn (fun _ => False) w W) (t1 : Turn F W W1) : RdE EB16 W1 a.ts a.t := rde_keep16 (h.ok.t.later ht) t1 (h.tfar.imp id (fun f k hk x => f k hk (.inl x)))
theorem Act16.box (h : Act16 M w F g r sl tl s a) {W W1 : World} {b : Nat} {t : TypeId} (hb : Box W b t (acells16 a)) (hw : w.heap.size ≤ b) (t1 : Turn F W W1) : Box W1 b t (acells16 a) :=
  hb.turn t1 (fun hk => by have := h.prog.lt h.both.prog b hk; omega)
theorem Act16.box2 (h : Act16 M w F g r sl tl s a) {W W1 : World} {b : Nat} {t : TypeId} (hb : Box W b t (acells16 a)) (hw : w.heap.size ≤ b) (t1 : Turn (fun k => k = r) W W1) : Box W1 b t (acells16 a) :=
  hb.turn t1 (fun hk => by have := h.both.doc.box.lt; omega)
theorem Act16.ends (h : Act16 M w F g r sl tl s a) {W W1 W2 : World} {F1 : Nat → Prop} {s2 : C16} {sl2 tl2 : Value} (ht : Turn (fun _ => False) w W) (h1 : M W1 F1 g s2) (t1 : Turn F W W1) (f1 : ∀ k, F1 k → F k ∨ W.heap.size ≤ k)
    (h2 : RD16 W2 r sl2 tl2 s2) (t2 : Turn (fun k => k = r) W1 W2) (o2 : Own16 W1 sl sl2) (p2 : Own16 W1 tl tl2) (hd : s2 = step16 s a) : Acted16 M w F g r (step16 s a) (.returned (.bool true)) W2 := by
  subst hd
  obtain ⟨x, y⟩ := both_next16 h.prog (both_later16 h.prog h.both ht) h1 t1 f1 h2 t2 o2 p2
  exact ⟨rfl, F1, sl2, tl2, x, (ht.mono (fun _ _ f => f.elim)).trans y (fun _ _ e => e), fun k hk => (f1 k hk).imp id (fun z => Nat.le_trans ht.size z)⟩
end

end Go.Proofs.Ytamcgoamkakpkaa

/-
  Stage 16: one act on both stores.
-/
namespace Go.Proofs.Ytamcgoamkakpkaa
open Go.RowKit

set_option maxRecDepth 100000

/-- The cells of the act, in its box. -/
def SA16 (b : Nat) (a : AC16) (W : World) : Prop :=
  W.cell? ⟨b, 0, none⟩ = some (.int .i64 a.kind) ∧ W.cell? ⟨b, 1, none⟩ = some (sv16 a.nm) ∧ W.cell? ⟨b, 2, none⟩ = some a.sl ∧ W.cell? ⟨b, 3, none⟩ = some a.ts
theorem SA16.of {W : World} {b : Nat} {a : AC16} {t : TypeId} (h : Box W b t (acells16 a)) : SA16 b a W := ⟨h.cell 0, h.cell 1, h.cell 2, h.cell 3⟩

set_option maxHeartbeats 16000000 in
theorem act_put16 (M : World → (Nat → Prop) → Nat → C16 → Prop) (w : World) (F : Nat → Prop) (g r : Nat) (sl tl : Value) (s : C16) (a : AC16) (h : Act16 M w F g r sl tl s a) (hk : a.kind = 0) :
    Calls Try.prog 11 #[.pointer (some ⟨g, 0, none⟩), .pointer (some ⟨r, 0, none⟩), .agg (acells16 a)] w fun e w' => Acted16 M w F g r (step16 s a) e w' := by
  have HA := Lib.hid h
  obtain ⟨wb, hwb⟩ : ∃ wb, wb = w.alloc (.cells (acells16 a) 36) := ⟨_, rfl⟩
  obtain ⟨b, hbb⟩ : ∃ b, b = w.heap.size := ⟨_, rfl⟩
  have HTB : Hid (Turn (fun _ => False) w wb) := by rw [hwb]; exact (Turn.refl _ w).alloc _
  have HBX : Hid (Box wb b 36 (acells16 a)) := by rw [hwb, hbb]; exact Box.new w _ _
  have HWB := Lib.hid hwb; have HBB := Lib.hid hbb
  have hk0 : (w.alloc (.cells (acells16 a) 36)).cell? ⟨w.heap.size, 0, none⟩ = some (.int .i64 a.kind) := (Box.new w 36 (acells16 a)).cell 0
  rw [hk] at hk0
  have HST : Hid (step16 s a = (put16 s a.nm a.b).1) := by show _ = _; unfold step16; rw [hk]; rfl
  have HPC : Hid (∀ W, Turn (fun _ => False) w W → Calls Try.prog 18 #[.pointer (some ⟨g, 0, none⟩), sv16 a.nm, a.sl] W fun e w' => DoesP16 M W F g (put16 s a.nm a.b).1 (.int .i64 (put16 s a.nm a.b).2) e w') := fun W ht => HA.out.prog.put _ _ _ (HA.out.mem ht) HA.out.bd (HA.out.bytes ht) (HA.out.far.imp id (fun f k hk x => f k hk (.inl x))) (by have := HA.out.short.2.1; omega)
  have HRC : Hid (∀ W W1, Turn (fun _ => False) w W → Turn F W W1 → Calls Try.prog 23 #[.pointer (some ⟨r, 0, none⟩), sv16 a.nm, sv16 a.b] W1 fun e w' => Does16 W1 r sl tl (put16 s a.nm a.b).1 (.int .i64 (put16 s a.nm a.b).2) e w') := fun W W1 ht t1 => ref_put16 r sl tl s _ _ (by have := HA.out.short.1; omega) (by have := HA.out.short.2.1; omega) W1 (HA.out.rd ht t1) (by have := HA.out.bd.len; omega) HA.out.bd.ok.turns
  clear h hk hwb hbb
  generalize put16 s a.nm a.b = p at *
  go_enter Try.func11, Try.ntmps11
  go_wp2_with fail
  rw [← HWB.out, ← HBB.out]
  refine drawn_region (fun W => SA16 b a W ∧ Rd W a.sl a.b) [] (by kernel_rfl) ?_
  have HTD : Hid (Turn (fun _ => False) w (World.drew wb)) := HTB.out.trans (Turn.refl _ wb).drew (fun _ _ f => f)
  have HBD : Hid (Box (World.drew wb) b 36 (acells16 a)) := HBX.out.turn (S := fun _ => False) (Turn.refl _ wb).drew (fun f => f)
  have hS0 : SA16 b a (World.drew wb) ∧ Rd (World.drew wb) a.sl a.b := ⟨SA16.of HBD.out, HA.out.bytes HTD.out⟩
  generalize World.drew wb = wd at *
  refine drawn_take 0 15 (.pointer (some ⟨g, 0, none⟩)) rfl rfl (by kernel_rfl) (by kernel_rfl) (by kernel_rfl) (by kernel_rfl) (fun _ _ _ h => h) (by rfl) (by assumption) (by intro w hSw; obtain ⟨⟨a0, a1, a2, a3⟩, _⟩ := hSw; go_simp) ?_
  try simp only [List.setIfInBounds_toArray, List.set_cons_zero, List.set_cons_succ]
  refine drawn_take 1 16 (.pointer (some ⟨b, 1, none⟩)) rfl rfl (by kernel_rfl) (by kernel_rfl) (by kernel_rfl) (by kernel_rfl) (fun _ _ _ h => h) (by rfl) (by assumption) (by intro w hSw; obtain ⟨⟨a0, a1, a2, a3⟩, _⟩ := hSw; go_simp) ?_
  try simp only [List.setIfInBounds_toArray, List.set_cons_zero, List.set_cons_succ]
  refine drawn_take 2 17 (sv16 a.nm) rfl rfl (by kernel_rfl) (by kernel_rfl) (by kernel_rfl) (by kernel_rfl) (fun _ _ _ h => h) (by rfl) (by assumption) (by intro w hSw; obtain ⟨⟨a0, a1, a2, a3⟩, _⟩ := hSw; go_simp) ?_
  try simp only [List.setIfInBounds_toArray, List.set_cons_zero, List.set_cons_succ]
  refine drawn_take 3 18 (.pointer (some ⟨b, 2, none⟩)) rfl rfl (by kernel_rfl) (by kernel_rfl) (by kernel_rfl) (by kernel_rfl) (fun _ _ _ h => h) (by rfl) (by assumption) (by intro w hSw; obtain ⟨⟨a0, a1, a2, a3⟩, _⟩ := hSw; go_simp) ?_
  try simp only [List.setIfInBounds_toArray, List.set_cons_zero, List.set_cons_succ]
  refine drawn_take 4 19 a.sl rfl rfl (by kernel_rfl) (by kernel_rfl) (by kernel_rfl) (by kernel_rfl) (fun _ _ _ h => h) (by rfl) (by assumption) (by intro w hSw; obtain ⟨⟨a0, a1, a2, a3⟩, _⟩ := hSw; go_simp) ?_
  try simp only [List.setIfInBounds_toArray, List.set_cons_zero, List.set_cons_succ]
  refine drawn_take 6 21 (.pointer (some ⟨r, 0, none⟩)) rfl rfl (by kernel_rfl) (by kernel_rfl) (by kernel_rfl) (by kernel_rfl) (fun _ _ _ h => h) (by rfl) (by assumption) (by intro w hSw; obtain ⟨⟨a0, a1, a2, a3⟩, _⟩ := hSw; go_simp) ?_
  try simp only [List.setIfInBounds_toArray, List.set_cons_zero, List.set_cons_succ]
  refine drawn_take 7 22 (.pointer (some ⟨b, 1, none⟩)) rfl rfl (by kernel_rfl) (by kernel_rfl) (by kernel_rfl) (by kernel_rfl) (fun _ _ _ h => h) (by rfl) (by assumption) (by intro w hSw; obtain ⟨⟨a0, a1, a2, a3⟩, _⟩ := hSw; go_simp) ?_
  try simp only [List.setIfInBounds_toArray, List.set_cons_zero, List.set_cons_succ]
  refine drawn_take 8 23 (sv16 a.nm) rfl rfl (by kernel_rfl) (by kernel_rfl) (by kernel_rfl) (by kernel_rfl) (fun _ _ _ h => h) (by rfl) (by assumption) (by intro w hSw; obtain ⟨⟨a0, a1, a2, a3⟩, _⟩ := hSw; go_simp) ?_
  try simp only [List.setIfInBounds_toArray, List.set_cons_zero, List.set_cons_succ]
  refine drawn_take 9 24 (.pointer (some ⟨b, 2, none⟩)) rfl rfl (by kernel_rfl) (by kernel_rfl) (by kernel_rfl) (by kernel_rfl) (fun _ _ _ h => h) (by rfl) (by assumption) (by intro w hSw; obtain ⟨⟨a0, a1, a2, a3⟩, _⟩ := hSw; go_simp) ?_
  try simp only [List.setIfInBounds_toArray, List.set_cons_zero, List.set_cons_succ]
  refine drawn_take 10 25 a.sl rfl rfl (by kernel_rfl) (by kernel_rfl) (by kernel_rfl) (by kernel_rfl) (fun _ _ _ h => h) (by rfl) (by assumption) (by intro w hSw; obtain ⟨⟨a0, a1, a2, a3⟩, _⟩ := hSw; go_simp) ?_
  try simp only [List.setIfInBounds_toArray, List.set_cons_zero, List.set_cons_succ]
  refine drawn_take 11 26 (sv16 a.b) rfl rfl (by kernel_rfl) (by kernel_rfl) (by kernel_rfl) (by kernel_rfl) (fun _ _ _ h => h) (by rfl) (by assumption) (by intro w hSw; have hcv := hSw.2.string; clear hSw; go_simp) ?_
  try simp only [List.setIfInBounds_toArray, List.set_cons_zero, List.set_cons_succ]
  refine drawn_any [5] (by kernel_rfl) (by simp) ?_
  refine drawn_cons rfl (fun K hK => ?_) drawn_nil
  go_simp
  refine (HPC.out wd HTD.out).mono ?_
  rintro e w1 ⟨rfl, F1, m1, t1, f1⟩
  have HB1 := Lib.hid (HA.out.box HBD.out (Nat.le_of_eq HBB.out.symm) t1)
  have HM1 := Lib.hid m1; have HT1 := Lib.hid t1; have HF1 := Lib.hid f1
  have hS1 : SA16 b a w1 ∧ Rd w1 a.sl a.b := ⟨SA16.of HB1.out, HA.out.bytes1 HTD.out t1⟩
  clear m1 t1 f1 hS0 HPC
  refine hK.out _ _ _ hS1 ?_
  clear hK K
  try simp only [List.setIfInBounds_toArray, List.set_cons_zero, List.set_cons_succ]
  refine drawn_any [12] (by kernel_rfl) (by simp) ?_
  refine drawn_cons rfl (fun K hK => ?_) drawn_nil
  go_simp
  refine (HRC.out wd w1 HTD.out HT1.out).mono ?_
  rintro e w2 ⟨rfl, sl2, tl2, r2, t2, o2, p2⟩
  have HB2 := Lib.hid (HA.out.box2 HB1.out (Nat.le_of_eq HBB.out.symm) t2)
  have HE : Hid (Acted16 M w F g r (step16 s a) (.returned (.bool true)) w2) := HA.out.ends HTD.out HM1.out HT1.out HF1.out r2 t2 o2 p2 HST.out.symm
  have HRB : Hid (Rd w2 a.sl a.b) := rd_keep16 hS1.2 t2 (HA.out.far.imp id (fun f k hk x => f k hk (.inr x)))
  have hS2 : SA16 b a w2 ∧ Rd w2 a.sl a.b := ⟨SA16.of HB2.out, HRB.out⟩
  clear r2 t2 o2 p2 hS1 HRC
  refine hK.out _ _ _ hS2 ?_
  clear hK K
  try simp only [List.setIfInBounds_toArray, List.set_cons_zero, List.set_cons_succ]
  refine drawn_take 13 28 (.bool true) rfl rfl (by kernel_rfl) (by kernel_rfl) (by kernel_rfl) (by kernel_rfl) (fun _ _ _ h => h) (by rfl) (by assumption) (by intro w hSw; obtain ⟨⟨a0, a1, a2, a3⟩, _⟩ := hSw; go_simp) ?_
  try simp only [List.setIfInBounds_toArray, List.set_cons_zero, List.set_cons_succ]
  refine drawn_last1 14 6 (.bool true) rfl rfl (by kernel_rfl) (by kernel_rfl) (by rfl) (by intro w; go_simp) hS2 ?_
  try simp only [List.setIfInBounds_toArray, List.set_cons_zero, List.set_cons_succ]
  clear hS2
  go_wp2
  go_ret
  exact HE.out

set_option maxHeartbeats 16000000 in
theorem act_del16 (M : World → (Nat → Prop) → Nat → C16 → Prop) (w : World) (F : Nat → Prop) (g r : Nat) (sl tl : Value) (s : C16) (a : AC16) (h : Act16 M w F g r sl tl s a) (hk : a.kind = 2) :
    Calls Try.prog 11 #[.pointer (some ⟨g, 0, none⟩), .pointer (some ⟨r, 0, none⟩), .agg (acells16 a)] w fun e w' => Acted16 M w F g r (step16 s a) e w' := by
  have HA := Lib.hid h
  obtain ⟨wb, hwb⟩ : ∃ wb, wb = w.alloc (.cells (acells16 a) 36) := ⟨_, rfl⟩
  obtain ⟨b, hbb⟩ : ∃ b, b = w.heap.size := ⟨_, rfl⟩
  have HTB : Hid (Turn (fun _ => False) w wb) := by rw [hwb]; exact (Turn.refl _ w).alloc _
  have HBX : Hid (Box wb b 36 (acells16 a)) := by rw [hwb, hbb]; exact Box.new w _ _
  have HWB := Lib.hid hwb; have HBB := Lib.hid hbb
  have hk0 : (w.alloc (.cells (acells16 a) 36)).cell? ⟨w.heap.size, 0, none⟩ = some (.int .i64 a.kind) := (Box.new w 36 (acells16 a)).cell 0
  rw [hk] at hk0
  have HST : Hid (step16 s a = (del16 s a.nm).1) := by show _ = _; unfold step16; rw [hk]; rfl
  have HPC : Hid (∀ W, Turn (fun _ => False) w W → Calls Try.prog 21 #[.pointer (some ⟨g, 0, none⟩), sv16 a.nm] W fun e w' => DoesP16 M W F g (del16 s a.nm).1 (.int .i64 (del16 s a.nm).2) e w') := fun W ht => HA.out.prog.del _ (HA.out.mem ht) HA.out.bd
  have HRC : Hid (∀ W W1, Turn (fun _ => False) w W → Turn F W W1 → Calls Try.prog 25 #[.pointer (some ⟨r, 0, none⟩), sv16 a.nm] W1 fun e w' => Does16 W1 r sl tl (del16 s a.nm).1 (.int .i64 (del16 s a.nm).2) e w') := fun W W1 ht t1 => ref_del16 r sl tl s _ (by have := HA.out.short.1; omega) W1 (HA.out.rd ht t1) (by have := HA.out.bd.len; omega) HA.out.bd.ok.turns
  clear h hk hwb hbb
  generalize del16 s a.nm = p at *
  go_enter Try.func11, Try.ntmps11
  go_wp2_with fail
  rw [← HWB.out, ← HBB.out]
  refine drawn_region (SA16 b a) [] (by kernel_rfl) ?_
  have HTD : Hid (Turn (fun _ => False) w (World.drew wb)) := HTB.out.trans (Turn.refl _ wb).drew (fun _ _ f => f)
  have HBD : Hid (Box (World.drew wb) b 36 (acells16 a)) := HBX.out.turn (S := fun _ => False) (Turn.refl _ wb).drew (fun f => f)
  have hS0 : SA16 b a (World.drew wb) := SA16.of HBD.out
  generalize World.drew wb = wd at *
  refine drawn_take 0 56 (.pointer (some ⟨g, 0, none⟩)) rfl rfl (by kernel_rfl) (by kernel_rfl) (by kernel_rfl) (by kernel_rfl) (fun _ _ _ h => h) (by rfl) (by assumption) (by intro w hSw; obtain ⟨a0, a1, a2, a3⟩ := hSw; go_simp) ?_
  try simp only [List.setIfInBounds_toArray, List.set_cons_zero, List.set_cons_succ]
  refine drawn_take 1 57 (.pointer (some ⟨b, 1, none⟩)) rfl rfl (by kernel_rfl) (by kernel_rfl) (by kernel_rfl) (by kernel_rfl) (fun _ _ _ h => h) (by rfl) (by assumption) (by intro w hSw; obtain ⟨a0, a1, a2, a3⟩ := hSw; go_simp) ?_
  try simp only [List.setIfInBounds_toArray, List.set_cons_zero, List.set_cons_succ]
  refine drawn_take 2 58 (sv16 a.nm) rfl rfl (by kernel_rfl) (by kernel_rfl) (by kernel_rfl) (by kernel_rfl) (fun _ _ _ h => h) (by rfl) (by assumption) (by intro w hSw; obtain ⟨a0, a1, a2, a3⟩ := hSw; go_simp) ?_
  try simp only [List.setIfInBounds_toArray, List.set_cons_zero, List.set_cons_succ]
  refine drawn_take 4 60 (.pointer (some ⟨r, 0, none⟩)) rfl rfl (by kernel_rfl) (by kernel_rfl) (by kernel_rfl) (by kernel_rfl) (fun _ _ _ h => h) (by rfl) (by assumption) (by intro w hSw; obtain ⟨a0, a1, a2, a3⟩ := hSw; go_simp) ?_
  try simp only [List.setIfInBounds_toArray, List.set_cons_zero, List.set_cons_succ]
  refine drawn_take 5 61 (.pointer (some ⟨b, 1, none⟩)) rfl rfl (by kernel_rfl) (by kernel_rfl) (by kernel_rfl) (by kernel_rfl) (fun _ _ _ h => h) (by rfl) (by assumption) (by intro w hSw; obtain ⟨a0, a1, a2, a3⟩ := hSw; go_simp) ?_
  try simp only [List.setIfInBounds_toArray, List.set_cons_zero, List.set_cons_succ]
  refine drawn_take 6 62 (sv16 a.nm) rfl rfl (by kernel_rfl) (by kernel_rfl) (by kernel_rfl) (by kernel_rfl) (fun _ _ _ h => h) (by rfl) (by assumption) (by intro w hSw; obtain ⟨a0, a1, a2, a3⟩ := hSw; go_simp) ?_
  try simp only [List.setIfInBounds_toArray, List.set_cons_zero, List.set_cons_succ]
  refine drawn_any [3] (by kernel_rfl) (by simp) ?_
  refine drawn_cons rfl (fun K hK => ?_) drawn_nil
  go_simp
  refine (HPC.out wd HTD.out).mono ?_
  rintro e w1 ⟨rfl, F1, m1, t1, f1⟩
  have HB1 := Lib.hid (HA.out.box HBD.out (Nat.le_of_eq HBB.out.symm) t1)
  have HM1 := Lib.hid m1; have HT1 := Lib.hid t1; have HF1 := Lib.hid f1
  have hS1 : SA16 b a w1 := SA16.of HB1.out
  clear m1 t1 f1 hS0 HPC
  refine hK.out _ _ _ hS1 ?_
  clear hK K
  try simp only [List.setIfInBounds_toArray, List.set_cons_zero, List.set_cons_succ]
  refine drawn_any [7] (by kernel_rfl) (by simp) ?_
  refine drawn_cons rfl (fun K hK => ?_) drawn_nil
  go_simp
  refine (HRC.out wd w1 HTD.out HT1.out).mono ?_
  rintro e w2 ⟨rfl, sl2, tl2, r2, t2, o2, p2⟩
  have HB2 := Lib.hid (HA.out.box2 HB1.out (Nat.le_of_eq HBB.out.symm) t2)
  have HE : Hid (Acted16 M w F g r (step16 s a) (.returned (.bool true)) w2) := HA.out.ends HTD.out HM1.out HT1.out HF1.out r2 t2 o2 p2 HST.out.symm
  have hS2 : SA16 b a w2 := SA16.of HB2.out
  clear r2 t2 o2 p2 hS1 HRC
  refine hK.out _ _ _ hS2 ?_
  clear hK K
  try simp only [List.setIfInBounds_toArray, List.set_cons_zero, List.set_cons_succ]
  refine drawn_take 8 64 (.bool true) rfl rfl (by kernel_rfl) (by kernel_rfl) (by kernel_rfl) (by kernel_rfl) (fun _ _ _ h => h) (by rfl) (by assumption) (by intro w hSw; obtain ⟨a0, a1, a2, a3⟩ := hSw; go_simp) ?_
  try simp only [List.setIfInBounds_toArray, List.set_cons_zero, List.set_cons_succ]
  refine drawn_last1 9 6 (.bool true) rfl rfl (by kernel_rfl) (by kernel_rfl) (by rfl) (by intro w; go_simp) hS2 ?_
  try simp only [List.setIfInBounds_toArray, List.set_cons_zero, List.set_cons_succ]
  clear hS2
  go_wp2
  go_ret
  exact HE.out

set_option maxHeartbeats 16000000 in
theorem act_get16 (M : World → (Nat → Prop) → Nat → C16 → Prop) (w : World) (F : Nat → Prop) (g r : Nat) (sl tl : Value) (s : C16) (a : AC16) (h : Act16 M w F g r sl tl s a) (hk : a.kind = 1) :
    Calls Try.prog 11 #[.pointer (some ⟨g, 0, none⟩), .pointer (some ⟨r, 0, none⟩), .agg (acells16 a)] w fun e w' => Acted16 M w F g r (step16 s a) e w' := by
  have HA := Lib.hid h
  have HBX : Hid (∀ W, Turn (fun _ => False) (w.alloc (.cells (acells16 a) 36)) W → Box W w.heap.size 36 (acells16 a)) := fun W ht => (Box.new w 36 (acells16 a)).turn ht (fun f => f)
  have HTB : Hid (Turn (fun _ => False) w (w.alloc (.cells (acells16 a) 36))) := (Turn.refl _ w).alloc _
  have hk1 := (HBX.out _ (Turn.refl _ _)).cell 1
  have hk0 : (w.alloc (.cells (acells16 a) 36)).cell? ⟨w.heap.size, 0, none⟩ = some (.int .i64 1) := by rw [← hk]; exact (HBX.out _ (Turn.refl _ _)).cell 0
  have HST : Hid (step16 s a = (get16 s a.nm).1) := by show _ = _; unfold step16; rw [hk]; rfl
  have HPC : Hid (∀ W, Turn (fun _ => False) w W → Calls Try.prog 20 #[.pointer (some ⟨g, 0, none⟩), sv16 a.nm] W fun e w' => GetsP16 M W F g (get16 s a.nm).1 (get16 s a.nm).2 e w') := fun W ht => HA.out.prog.get _ (HA.out.mem ht) HA.out.bd
  have HRC : Hid (∀ W W1, Turn (fun _ => False) w W → Turn F W W1 → Calls Try.prog 24 #[.pointer (some ⟨r, 0, none⟩), sv16 a.nm] W1 fun e w' => Gets16 W1 r sl tl (get16 s a.nm).1 (get16 s a.nm).2 e w') := fun W W1 ht t1 => ref_get16 r sl tl s _ (by have := HA.out.short.1; omega) W1 (HA.out.rd ht t1) (by have := HA.out.bd.len; omega) HA.out.bd.ok.turns
  have HBS : Hid (∀ W1, Turn F (w.alloc (.cells (acells16 a) 36)) W1 → Box W1 w.heap.size 36 (acells16 a)) := fun W1 t1 => HA.out.box (HBX.out _ (Turn.refl _ _)) (Nat.le_refl _) t1
  have HLN : Hid ((get16 s a.nm).2.1.length ≤ 4194304) := get_bytes16 HA.out.bd.ok a.nm
  clear h hk
  generalize get16 s a.nm = p at *
  obtain ⟨s2, l, c⟩ := p
  dsimp only at HLN HST
  go_enter Try.func11, Try.ntmps11
  go_wp2_with fail
  refine (HPC.out _ HTB.out).mono ?_
  rintro e w1 ⟨v, rfl, hv, hn, F1, m1, t1, f1, -⟩
  have HM1 := Lib.hid m1; have HT1 := Lib.hid t1; have HF1 := Lib.hid f1
  have hx1 := (HBS.out w1 t1).cell 1
  have HV := Lib.hid hv
  have HNV := Lib.hid hn
  obtain ⟨A, c2, rfl⟩ := hv.shape
  clear m1 t1 f1 hv hn HPC hk0 hk1
  go_wp2_with fail
  refine (HRC.out _ w1 HTB.out HT1.out).mono ?_
  rintro e w2 ⟨rfl, sl2, tl2, r2, t2, o2, p2⟩
  have hcv : (convert 34 9 (.slice A l.length c2)).run Try.prog w2 = .ok (.string ⟨l.toArray⟩) w2 := (HV.out.turn t2 (fun k hk e => by have h1 := HNV.out k hk; have h2 := HA.out.both.doc.box.lt; have h3 := HTB.out.size; omega)).string
  have HE : Hid (Acted16 M w F g r (step16 s a) (.returned (.bool true)) w2) := HA.out.ends HTB.out HM1.out HT1.out HF1.out r2 t2 o2 p2 HST.out.symm
  clear r2 t2 o2 p2 HRC hx1
  go_wp2
  go_ret
  exact HE.out

set_option maxHeartbeats 16000000 in
theorem act_fail16 (M : World → (Nat → Prop) → Nat → C16 → Prop) (w : World) (F : Nat → Prop) (g r : Nat) (sl tl : Value) (s : C16) (a : AC16) (h : Act16 M w F g r sl tl s a) (h0 : a.kind ≠ 0) (h1 : a.kind ≠ 1) (h2 : a.kind ≠ 2) :
    Calls Try.prog 11 #[.pointer (some ⟨g, 0, none⟩), .pointer (some ⟨r, 0, none⟩), .agg (acells16 a)] w fun e w' => Acted16 M w F g r (step16 s a) e w' := by
  have HA := Lib.hid h
  have HBX : Hid (∀ W, Turn (fun _ => False) (w.alloc (.cells (acells16 a) 36)) W → Box W w.heap.size 36 (acells16 a)) := fun W ht => (Box.new w 36 (acells16 a)).turn ht (fun f => f)
  have HTB : Hid (Turn (fun _ => False) w (w.alloc (.cells (acells16 a) 36))) := (Turn.refl _ w).alloc _
  have hk0 := (HBX.out _ (Turn.refl _ _)).cell 0
  have hk3 := (HBX.out _ (Turn.refl _ _)).cell 3
  have HST : Hid (step16 s a = fail16 s a.t) := by show _ = _; unfold step16; rw [if_neg h0, if_neg h1, if_neg h2]
  have HPC : Hid (∀ W, Turn (fun _ => False) w W → Calls Try.prog 19 #[.pointer (some ⟨g, 0, none⟩), a.ts] W fun e w' => DoesP16 M W F g (fail16 s a.t) (.tuple #[]) e w') := fun W ht => HA.out.prog.fail _ _ (HA.out.mem ht) HA.out.bd (HA.out.ok.t.later ht) (HA.out.tfar.imp id (fun f k hk x => f k hk (.inl x))) (by have := HA.out.short.2.2; omega)
  have HRC : Hid (∀ W W1, Turn (fun _ => False) w W → Turn F W W1 → Calls Try.prog 26 #[.pointer (some ⟨r, 0, none⟩), a.ts] W1 fun e w' => Does16 W1 r sl tl (fail16 s a.t) (.tuple #[]) e w') := fun W W1 ht t1 => ref_fail16 r sl tl s _ _ W1 (HA.out.rd ht t1) (HA.out.turns1 ht t1) (HA.out.tfar.imp id (fun f e => f r e (.inr rfl))) (by have := HA.out.short.2.2; omega) HA.out.bd.ok.turns
  have HBS : Hid (∀ W1, Turn F (w.alloc (.cells (acells16 a) 36)) W1 → Box W1 w.heap.size 36 (acells16 a)) := fun W1 t1 => HA.out.box (HBX.out _ (Turn.refl _ _)) (Nat.le_refl _) t1
  have k0 : (a.kind == 0) = false := by rw [beq_eq_false_iff_ne]; exact h0
  have k1 : (a.kind == 1) = false := by rw [beq_eq_false_iff_ne]; exact h1
  have k2 : (a.kind == 2) = false := by rw [beq_eq_false_iff_ne]; exact h2
  clear h h0 h1 h2
  generalize fail16 s a.t = p at *
  go_enter Try.func11, Try.ntmps11
  go_wp2_with fail
  refine (HPC.out _ HTB.out).mono ?_
  rintro e w1 ⟨rfl, F1, m1, t1, f1⟩
  have HM1 := Lib.hid m1; have HT1 := Lib.hid t1; have HF1 := Lib.hid f1
  have hx3 := (HBS.out w1 t1).cell 3
  clear m1 t1 f1 HPC hk0 hk3
  go_wp2_with fail
  refine (HRC.out _ w1 HTB.out HT1.out).mono ?_
  rintro e w2 ⟨rfl, sl2, tl2, r2, t2, o2, p2⟩
  have HE : Hid (Acted16 M w F g r (step16 s a) (.returned (.bool true)) w2) := HA.out.ends HTB.out HM1.out HT1.out HF1.out r2 t2 o2 p2 HST.out.symm
  clear r2 t2 o2 p2 HRC hx3
  go_wp2
  go_ret
  exact HE.out

/-- Any act. -/
theorem act_any16 (M : World → (Nat → Prop) → Nat → C16 → Prop) (w : World) (F : Nat → Prop) (g r : Nat) (sl tl : Value) (s : C16) (a : AC16) (h : Act16 M w F g r sl tl s a) :
    Calls Try.prog 11 #[.pointer (some ⟨g, 0, none⟩), .pointer (some ⟨r, 0, none⟩), .agg (acells16 a)] w fun e w' => Acted16 M w F g r (step16 s a) e w' := by
  by_cases h0 : a.kind = 0
  · exact act_put16 M w F g r sl tl s a h h0
  · by_cases h1 : a.kind = 1
    · exact act_get16 M w F g r sl tl s a h h1
    · by_cases h2 : a.kind = 2
      · exact act_del16 M w F g r sl tl s a h h2
      · exact act_fail16 M w F g r sl tl s a h h0 h1 h2

end Go.Proofs.Ytamcgoamkakpkaa
