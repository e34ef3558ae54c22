/-
  Words on memory: blocks that are known whole, rows that are owned, told apart by the types of their elements. No program is named here.
-/
import Derived.Test.YtbckdieajfbepaaDoorBase
import Derived.Below
import Derived.OneCell
import Derived.Laws.AppendOwn
import Derived.Laws.OwnMore
import Derived.Lib.SmallJoins
namespace Go.Proofs.YtbckdieajfbepaaDoor
open Go.RowKit
set_option linter.unusedVariables false
set_option linter.unusedSimpArgs false

/-- Only blocks of one element type have turned, or are new. -/
structure Turns (e : TypeId) (w w' : World) : Prop where
  size : w.heap.size ≤ w'.heap.size
  block : ∀ (k : Nat) (cs : Array Value) (t : TypeId) (fr : Nat × Nat), w.heap[k]? = some (.cells cs t fr) → t ≠ e → w'.heap[k]? = some (.cells cs t fr)
theorem Turns.refl (e : TypeId) (w : World) : Turns e w w := ⟨Nat.le_refl _, fun _ _ _ _ h _ => h⟩
theorem Turns.of_kept {e : TypeId} {w w' : World} (hs : w.heap.size ≤ w'.heap.size) (hk : ∀ k, k < w.heap.size → w'.heap[k]? = w.heap[k]?) : Turns e w w' :=
  ⟨hs, fun k _ _ _ h _ => (hk k (lt_of_block h)).trans h⟩
theorem Turns.of_below {e : TypeId} {w w' : World} (hb : Below w.heap.size w w') : Turns e w w' := Turns.of_kept hb.size hb.block
theorem Turns.trans {e : TypeId} {a b c : World} (h : Turns e a b) (k : Turns e b c) : Turns e a c :=
  ⟨Nat.le_trans h.size k.size, fun i cs t fr hi hn => k.block i cs t fr (h.block i cs t fr hi hn) hn⟩
theorem Turns.setCell {e : TypeId} {w : World} {g : Nat} {cs : Array Value} {fr : Nat × Nat} (hg : w.heap[g]? = some (.cells cs e fr)) (i : Nat) (u : Value) : Turns e w (w.setCell ⟨g, i, none⟩ u) :=
  ⟨by simp, fun k cs' t fr' h hn => by
    have : k ≠ g := fun e' => by subst e'; rw [hg] at h; injection h with h; injection h with h1 h2 h3; exact hn h2.symm
    exact (Below.heap_setCell w ⟨g, i, none⟩ u k this).trans h⟩
theorem Turns.grown {e : TypeId} {w w' : World} {row : Option Nat} (hg : w.grownBy w' row) (hrow : ∀ g, row = some g → ∃ (c : Array Value) (fz : Nat × Nat), w.heap[g]? = some (.cells c e fz)) : Turns e w w' :=
  ⟨hg.size, fun k cs t fr h hn => by
    refine (hg.block k (lt_of_block h) fun e' => ?_).trans h
    obtain ⟨c, fz, hc⟩ := hrow k e'.symm
    rw [hc] at h; injection h with h; injection h with h1 h2 h3; exact hn h2.symm⟩
/-- Only blocks of two element types have turned, or are new. -/
structure Turns2 (e1 e2 : TypeId) (w w' : World) : Prop where
  size : w.heap.size ≤ w'.heap.size
  block : ∀ (k : Nat) (cs : Array Value) (t : TypeId) (fr : Nat × Nat), w.heap[k]? = some (.cells cs t fr) → t ≠ e1 → t ≠ e2 → w'.heap[k]? = some (.cells cs t fr)
theorem Turns.two1 {e1 e2 : TypeId} {w w' : World} (h : Turns e1 w w') : Turns2 e1 e2 w w' := ⟨h.size, fun k cs t fr hk h1 _ => h.block k cs t fr hk h1⟩
theorem Turns.two2 {e1 e2 : TypeId} {w w' : World} (h : Turns e2 w w') : Turns2 e1 e2 w w' := ⟨h.size, fun k cs t fr hk _ h2 => h.block k cs t fr hk h2⟩
theorem Turns2.trans {e1 e2 : TypeId} {a b c : World} (h : Turns2 e1 e2 a b) (k : Turns2 e1 e2 b c) : Turns2 e1 e2 a c :=
  ⟨Nat.le_trans h.size k.size, fun i cs t fr hi h1 h2 => k.block i cs t fr (h.block i cs t fr hi h1 h2) h1 h2⟩
theorem own_kind {w : World} {B : Nat} {e : TypeId} {size : Nat} {v : Value} {n : Nat} {xs : List Value} (h : w.ownsRow B e size v n xs) : ∀ g, v.ownBlock = some g → ∃ (c : Array Value) (fz : Nat × Nat), w.heap[g]? = some (.cells c e fz) := by
  intro g hg
  rcases h.2 with ⟨rfl, _⟩ | ⟨g', cap, cur, rfl, _, hh, _⟩
  · simp [Value.ownBlock] at hg
  · simp [Value.ownBlock] at hg; subst hg; exact ⟨_, _, hh⟩
/-- A row stays owned while blocks of another type turn. -/
theorem own_turns {w w' : World} {B : Nat} {e e' : TypeId} {size : Nat} {v : Value} {n : Nat} {xs : List Value} (h : w.ownsRow B e size v n xs) (ht : Turns e' w w') (hne : e ≠ e') : w'.ownsRow B e size v n xs := by
  refine ⟨h.1, ?_⟩
  rcases h.2 with hn | ⟨g, cap, cur, rfl, hb, hh, rest⟩
  · exact .inl hn
  · exact .inr ⟨g, cap, cur, rfl, hb, ht.block g cur e (0, 0) hh hne, rest⟩
/-- And while nothing that is old turns. -/
theorem own_kept {w w' : World} {B : Nat} {e : TypeId} {size : Nat} {v : Value} {n : Nat} {xs : List Value} (h : w.ownsRow B e size v n xs) (hk : ∀ k, k < w.heap.size → w'.heap[k]? = w.heap[k]?) : w'.ownsRow B e size v n xs := by
  refine ⟨h.1, ?_⟩
  rcases h.2 with hn | ⟨g, cap, cur, rfl, hb, hh, rest⟩
  · exact .inl hn
  · exact .inr ⟨g, cap, cur, rfl, hb, (hk g (lt_of_block hh)).trans hh, rest⟩
/-- The cells of an owned row, by their places. -/
theorem own_at {w : World} {B : Nat} {e : TypeId} {size n cap g : Nat} {xs : List Value} (h : w.ownsRow B e size (.slice (some ⟨g, 0, none⟩) n cap) n xs) (j : Nat) (u : Value) (hu : xs[j]? = some u) : w.cell? ⟨g, j, none⟩ = some u := by
  have hj : j < n * size := by
    have := h.1
    rcases Nat.lt_or_ge j xs.length with h' | h'
    · omega
    · rw [List.getElem?_eq_none h'] at hu; cases hu
  exact (h.cellAt j hj).trans hu
/-- An owned row that has something: its value. -/
theorem own_form {w : World} {B : Nat} {e : TypeId} {size n : Nat} {v : Value} {xs : List Value} (h : w.ownsRow B e size v n xs) (hn : 0 < n) : ∃ g cap, v = .slice (some ⟨g, 0, none⟩) n cap ∧ n ≤ cap ∧ B ≤ g ∧ g < w.heap.size := by
  rcases h.2 with ⟨_, h0⟩ | ⟨g, cap, cur, rfl, hb, hh, hc, _⟩
  · omega
  · exact ⟨g, cap, rfl, hc, hb, lt_of_block hh⟩
/-- Two slices of one owned row: a shorter length. -/
theorem own_cut {w : World} {B : Nat} {e : TypeId} {size n : Nat} {v : Value} {xs : List Value} (h : w.ownsRow B e size v n xs) :
    ∃ v', w.ownsRow B e size v' 0 [] ∧ (v = .slice none 0 0 ∧ v' = .slice none 0 0 ∨ ∃ g cap, v = .slice (some ⟨g, 0, none⟩) n cap ∧ v' = .slice (some ⟨g, 0, none⟩) 0 cap) := by
  rcases h.2 with ⟨rfl, h0⟩ | ⟨g, cap, cur, rfl, hb, hh, hc, hm, hs, _⟩
  · exact ⟨_, World.ownsRow_nil _ _ _ _, .inl ⟨rfl, rfl⟩⟩
  · exact ⟨.slice (some ⟨g, 0, none⟩) 0 cap, ⟨by simp, .inr ⟨g, cap, cur, rfl, hb, hh, Nat.zero_le _, hm, hs, by simp⟩⟩, .inr ⟨g, cap, rfl, rfl⟩⟩
/-- The value of an owned row is a slice of its length. -/
theorem own_sl {w : World} {B : Nat} {e : TypeId} {size n : Nat} {v : Value} {xs : List Value} (h : w.ownsRow B e size v n xs) : ∃ a cap, v = .slice a n cap := by
  rcases h.2 with ⟨rfl, rfl⟩ | ⟨g, cap, cur, rfl, _⟩
  · exact ⟨_, _, rfl⟩
  · exact ⟨_, _, rfl⟩
theorem kept_alloc (w : World) (o : Obj) : ∀ k, k < w.heap.size → (w.alloc o).heap[k]? = w.heap[k]? := fun k hk => Below.heap_alloc w o k hk
end Go.Proofs.YtbckdieajfbepaaDoor
