/- Marks: the text of a mark; numbers and texts in rows. -/
import Derived.Test.YtkdlgglikhbnkalPParse3
import Derived.Test.YtkdlgglikhbnkalPTree
namespace Go.Proofs.Ytkdlgglikhbnkal
open Go.ChangeShapes Go.WideShapes Go.ChangeAt Go.RowKit
set_option linter.unusedVariables false
set_option maxRecDepth 100000
attribute [local go_sem ↓] Go.wp_at_zero Go.wp_at_succ

/-- The digits of k, ahead of those that there are. -/
def mGo (k : Nat) (acc : List UInt8) : List UInt8 := if h : 0 < k then mGo (k / 10) (UInt8.ofNat (48 + k % 10) :: acc) else acc
termination_by k
decreasing_by exact Nat.div_lt_self h (by omega)
theorem mGo_step {k : Nat} (h : 0 < k) (acc : List UInt8) : mGo k acc = mGo (k / 10) (UInt8.ofNat (48 + k % 10) :: acc) := by rw [mGo, dif_pos h]
theorem mGo_end (acc : List UInt8) : mGo 0 acc = acc := by rw [mGo, dif_neg (by omega)]
def mT (k : Nat) : ByteArray := ⟨#[109]⟩ ++ ⟨(mGo k []).toArray⟩

theorem cat_cons (b : UInt8) (acc : List UInt8) : (ByteArray.mk #[b]) ++ (ByteArray.mk acc.toArray) = ⟨(b :: acc).toArray⟩ := by
  apply ByteArray.ext
  simp

set_option maxHeartbeats 2000000 in
theorem markText_any (k : Nat) (w : World) (hk : 0 < k) (hk2 : k ≤ 1000000) :
    Calls Try.prog 41 #[.int .i64 (k : Int)] w fun e w' => e = .returned (.string (mT k)) ∧ Below w.heap.size w w' := by
  have hk' : ¬ (k : Int) ≤ 0 := by omega
  go_enter Try.func41, Try.ntmps41
  go_wp2
  go_loopw [0, 3] (fun t o wr => ∃ (j : Nat) (acc : List UInt8), t = .int .i64 (j : Int) ∧ o = .string ⟨acc.toArray⟩ ∧ Hid (mGo j acc = mGo k []) ∧ acc.length + j ≤ k ∧ Below w.heap.size w wr) (fun t _ _ => (intOf t).toNat)
  case atStart => exact ⟨k, [], rfl, rfl, rfl, by simp, Below.refl _ _⟩
  case round =>
    rename World => wo
    obtain ⟨j, acc, rfl, rfl, hm, hlen, hb⟩ := hrel
    by_cases hj : 0 < j
    · have j0 : (0 : Int) < (j : Int) := by omega
      have hbt : ((UInt8.ofNat (48 + j % 10)).toNat : Int) = 48 + (j : Int) % 10 := by
        rw [UInt8.toNat_ofNat']
        omega
      have hback := run_convert_bytes_back (P := Try.prog) (wo.alloc (Obj.cells #[.int .u8 (48 + (j : Int) % 10)] 5)) 65 9 5 ⟨wo.heap.size, 0, none⟩ 1 [UInt8.ofNat (48 + j % 10)] Try.underlying65 Try.underlying5 Try.underlying9 (fun i hi => by
        have e0 : i = 0 := by simpa using hi
        subst e0
        show _ = some (Value.int .u8 ((UInt8.ofNat (48 + j % 10)).toNat : Int))
        rw [hbt]
        simp [Addr.add, go_sem])
      simp only [List.length_cons, List.length_nil, Nat.zero_add] at hback
      have hM : Hid (mGo (j / 10) (UInt8.ofNat (48 + j % 10) :: acc) = mGo k []) := by
        show _ = _
        rw [← mGo_step hj]
        exact hm.out
      have hL : (UInt8.ofNat (48 + j % 10) :: acc).length + j / 10 ≤ k := by
        rw [List.length_cons]
        omega
      have hlt : j / 10 < j := by omega
      generalize UInt8.ofNat (48 + j % 10) = bb at hback hM hL
      clear hbt hm
      go_wp2
      go_roundw
      case rel => exact ⟨j / 10, bb :: acc, by simp, by rw [cat_cons], hM, hL, hb.alloc hb.size _⟩
      case measure => simp [intOf]; omega
    · obtain rfl : j = 0 := by omega
      have e : mT k = ⟨#[109]⟩ ++ ⟨acc.toArray⟩ := by rw [mT, ← hm.out, mGo_end]
      clear hm
      go_wp2
      go_ret
      exact ⟨by rw [e]; rfl, hb⟩

/-- Only blocks of p, and new ones, may have been written. -/
structure Wr (p : Nat → Prop) (w w' : World) : Prop where
  os : w'.os = w.os
  tape : w'.tape = w.tape
  output : w'.output = w.output
  size : w.heap.size ≤ w'.heap.size
  block : ∀ g, g < w.heap.size → ¬ p g → w'.heap[g]? = w.heap[g]?
theorem Wr.refl (p : Nat → Prop) (w : World) : Wr p w w := ⟨rfl, rfl, rfl, Nat.le_refl _, fun _ _ _ => rfl⟩
theorem Wr.trans {p : Nat → Prop} {a b c : World} (h : Wr p a b) (k : Wr p b c) : Wr p a c :=
  ⟨k.os.trans h.os, k.tape.trans h.tape, k.output.trans h.output, Nat.le_trans h.size k.size, fun g hg hp => (k.block g (Nat.lt_of_lt_of_le hg h.size) hp).trans (h.block g hg hp)⟩
theorem Wr.set {p : Nat → Prop} {a w : World} (h : Wr p a w) {x : Addr} (hx : p x.block) (u : Value) : Wr p a (w.setCell x u) :=
  h.trans ⟨rfl, rfl, rfl, by simp [World.setCell], fun g _ hg => Below.heap_setCell _ _ _ _ (fun e => hg (e ▸ hx))⟩
theorem Wr.imp {p q : Nat → Prop} {a w : World} (h : Wr p a w) (hpq : ∀ k, p k → q k) : Wr q a w :=
  ⟨h.os, h.tape, h.output, h.size, fun g hg hn => h.block g hg (fun hp => hn (hpq g hp))⟩
theorem Wr.of_below {p : Nat → Prop} {a w : World} (h : Below a.heap.size a w) : Wr p a w := ⟨h.os, h.tape, h.output, h.size, fun g hg _ => h.block g hg⟩
theorem Wr.below {p : Nat → Prop} {a w : World} {B : Nat} (h : Wr p a w) (hp : ∀ k, p k → B ≤ k) (hB : B ≤ a.heap.size) : Below B a w :=
  ⟨h.os, h.tape, h.output, h.size, fun g hg => h.block g (by omega) (fun h' => by have := hp g h'; omega)⟩

/-- The slice v of n elements of one cell each lies in a row of its own, whose cells are h's. -/
def KidRow (E : TypeId) (w : World) (v : Value) (n : Nat) (h : Nat → Value) : Prop := ∃ a c, v = .slice a n c ∧ (0 < n → ∃ g, a = some ⟨g, 0, none⟩ ∧ v.ownBlock = some g ∧ RowOf w g E n h)
theorem KidRow.keep {E : TypeId} {w w' : World} {v : Value} {n : Nat} {h : Nat → Value} (k : KidRow E w v n h) (hk : ∀ g, v.ownBlock = some g → g < w.heap.size → w'.heap[g]? = w.heap[g]?) : KidRow E w' v n h := by
  obtain ⟨a, c, e, k⟩ := k
  refine ⟨a, c, e, fun hp => ?_⟩
  obtain ⟨g, e1, e2, hr⟩ := k hp
  exact ⟨g, e1, e2, hr.of_block (hk g e2 hr.lt)⟩
theorem KidRow.stays {E : TypeId} {w w' : World} {v : Value} {n : Nat} {h : Nat → Value} (k : KidRow E w v n h) (hb : Below w.heap.size w w') : KidRow E w' v n h := k.keep fun g _ hl => hb.block g hl
theorem rowOf_owns {w : World} {base : Nat} {E : TypeId} {sz g n c : Nat} {xs : List Value} (h : w.ownsRow base E sz (.slice (some ⟨g, 0, none⟩) n c) n xs) : RowOf w g E (n * sz) (fun j => xs.getD j undef) := by
  obtain ⟨h1, h2⟩ := h
  rcases h2 with ⟨h2, _⟩ | ⟨g', cap, cur, e, h4, h5, h6, h7, h8, h9⟩
  · cases h2
  · cases e
    refine ⟨cur, h5, by rw [h8]; exact Nat.mul_le_mul_right _ h6, fun j hj => ?_⟩
    have e1 : xs[j]? = cur[j]? := by rw [← h9, List.getElem?_take_of_lt hj, Array.getElem?_toList]
    have e2 : xs[j]? = some (xs.getD j undef) := by
      have hl : j < xs.length := by omega
      simp [List.getElem?_eq_getElem hl]
    rw [← e1, e2]
theorem KidRow.of_owns {E : TypeId} {w : World} {base n : Nat} {v : Value} {xs : List Value} (h : w.ownsRow base E 1 v n xs) : ∃ f, KidRow E w v n f := by
  rcases id h.2 with ⟨h1, h2⟩ | ⟨g, cap, cur, h1, _⟩
  · exact ⟨fun _ => undef, none, 0, by rw [h1, h2], fun hp => by omega⟩
  · subst h1
    have hr := rowOf_owns h
    rw [Nat.mul_one] at hr
    exact ⟨_, some ⟨g, 0, none⟩, cap, rfl, fun _ => ⟨g, rfl, rfl, hr⟩⟩

end Go.Proofs.Ytkdlgglikhbnkal
