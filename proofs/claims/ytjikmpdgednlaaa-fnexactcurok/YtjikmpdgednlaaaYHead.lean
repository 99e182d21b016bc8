/- The program's headOf: a node, and the way to its kids. -/
import Derived.Test.YtjikmpdgednlaaaYSmall
namespace Go.Proofs.Ytjikmpdgednlaaa
open Go.ChangeShapes Go.WideShapes Go.ChangeAt Go.RowKit
set_option linter.unusedVariables false
set_option maxRecDepth 100000
attribute [local go_sem ↓] Go.wp_at_zero Go.wp_at_succ

/-- The kids of node i lie in this slice. -/
def KidsOf (w : World) (a : Option Addr) (l : List Nd) (i : Nat) (ka : Option Addr) (kc : Nat) : Prop := ∃ b off, a = some ⟨b, off, none⟩ ∧ w.cell? ⟨b, off + i * 4 + 1 + 1 + 1, none⟩ = some (.slice ka (ndAt l i).kids.length kc)
theorem KidsOf.ints {lo hi : Nat} {w : World} {a : Option Addr} {c : Nat} {l : List Nd} {i : Nat} {ka : Option Addr} {kc : Nat} (h : NodesAt lo hi w (.slice a l.length c) l) (hi' : i < l.length) (k : KidsOf w a l i ka kc) : IntsAt lo hi w (.slice ka (ndAt l i).kids.length kc) (ndAt l i).kids := by
  obtain ⟨a1, c1, e1, hm1, hcc⟩ := h
  cases e1
  obtain ⟨nb, off, rfl, hlo, hhi, hcl⟩ := hcc (by omega)
  obtain ⟨n0, n1, n2, ka', kc', n3, Ki⟩ := hcl i hi'
  obtain ⟨b, off', e, hc⟩ := k
  cases e
  rw [n3] at hc
  cases hc
  exact Ki
theorem KidsOf.back {lo hi : Nat} {w w' : World} {a : Option Addr} {c : Nat} {l : List Nd} {i : Nat} {ka : Option Addr} {kc : Nat} (h : NodesAt lo hi w (.slice a l.length c) l) (hi' : i < l.length) (hb : Below w.heap.size w w') (k : KidsOf w' a l i ka kc) : KidsOf w a l i ka kc := by
  obtain ⟨a1, c1, e1, hm1, hcc⟩ := h
  cases e1
  obtain ⟨nb, off, rfl, hlo, hhi, hcl⟩ := hcc (by omega)
  obtain ⟨n0, n1, n2, ka', kc', n3, Ki⟩ := hcl i hi'
  obtain ⟨b, off', e, hc⟩ := k
  cases e
  refine ⟨nb, off, rfl, ?_⟩
  rw [cell_stays hb n3] at hc
  rw [n3, hc]

set_option maxHeartbeats 2000000 in
theorem headOf_any (a : Option Addr) (c : Nat) (l : List Nd) (i : Nat) (w : World) {lo hi : Nat} (h : NodesAt lo hi w (.slice a l.length c) l) (hi' : i < l.length) :
    Calls Try.prog 63 #[.slice a l.length c, .int .i64 (i : Int)] w fun e w' => (∃ ka kc, e = .returned (.agg #[.int .i64 (ndAt l i).k, .string (ndAt l i).s, .int .i64 (ndAt l i).n, .slice ka (ndAt l i).kids.length kc, .slice a l.length c]) ∧ KidsOf w a l i ka kc) ∧ Below w.heap.size w w' := by
  obtain ⟨a1, c1, e1, hm1, hcc⟩ := id h
  cases e1
  obtain ⟨nb, off, rfl, hlo, hhi, hcl⟩ := hcc (by omega)
  obtain ⟨n0, n1, n2, ka, kc, n3, Ki⟩ := hcl i hi'
  have i0 : (0 : Int) ≤ (i : Int) := by omega
  have i1 : (i : Int) < (l.length : Int) := by omega
  clear hcc hcl
  have bA : ∀ o : Obj, Below w.heap.size w (w.alloc o) := fun o => (Below.refl _ _).alloc (Nat.le_refl _) o
  have m0 := fun o => cell_stays (bA o) n0
  have m1 := fun o => cell_stays (bA o) n1
  have m2 := fun o => cell_stays (bA o) n2
  have m3 := fun o => cell_stays (bA o) n3
  go_enter Try.func63, Try.ntmps63
  go_wp2
  refine bodyPost_ret (v := .agg #[.int .i64 (ndAt l i).k, .string (ndAt l i).s, .int .i64 (ndAt l i).n, .slice ka (ndAt l i).kids.length kc, .slice (some ⟨nb, off, none⟩) l.length c]) (by simp [results, Try.results63, go_sem]) rfl ⟨⟨ka, kc, rfl, nb, off, rfl, n3⟩, ?_⟩
  first
    | exact bA _
    | (repeat (first | exact bA _ | refine Below.setCell ?_ (by simp) _))

set_option maxHeartbeats 4000000 in
theorem kid_any (a : Option Addr) (c : Nat) (l : List Nd) (k : Int) (s : ByteArray) (n : Int) (ka : Option Addr) (m kc j xn : Nat) (kids : List Int) (w : World) {lo hi : Nat} (h : NodesAt lo hi w (.slice a l.length c) l) (hk : IntsAt lo hi w (.slice ka m kc) kids) (hm : m = kids.length) (hj : j < kids.length) (hx : iAt kids j = (xn : Int)) (hxl : xn < l.length) :
    Calls Try.prog 87 #[.agg #[.int .i64 k, .string s, .int .i64 n, .slice ka m kc, .slice a l.length c], .int .i64 (j : Int)] w fun e w' => (∃ qa qc, e = .returned (.agg #[.int .i64 (ndAt l xn).k, .string (ndAt l xn).s, .int .i64 (ndAt l xn).n, .slice qa (ndAt l xn).kids.length qc, .slice a l.length c]) ∧ KidsOf w a l xn qa qc) ∧ Below w.heap.size w w' := by
  obtain ⟨ka', kc', e2, hm2, hkk⟩ := id hk
  cases e2
  obtain ⟨kb, koff, rfl, hklo, hkhi, hkc⟩ := hkk (by omega)
  have kj := hkc j hj
  rw [hx] at kj
  have j0 : (0 : Int) ≤ (j : Int) := by omega
  have j1 : (j : Int) < (kids.length : Int) := by omega
  clear hkk hkc hx
  have b2 : Below w.heap.size w ((w.alloc (Obj.cells #[.int .i64 k, .string s, .int .i64 n, .slice (some ⟨kb, koff, none⟩) kids.length kc, .slice a l.length c] 100)).alloc (Obj.cells #[.int .i64 0, .string ⟨#[]⟩, .int .i64 0, .slice none 0 0, .slice none 0 0] 100)) := ((Below.refl _ _).alloc (Nat.le_refl _) _).alloc (by simp) _
  have y3 : ((w.alloc (Obj.cells #[.int .i64 k, .string s, .int .i64 n, .slice (some ⟨kb, koff, none⟩) kids.length kc, .slice a l.length c] 100)).alloc (Obj.cells #[.int .i64 0, .string ⟨#[]⟩, .int .i64 0, .slice none 0 0, .slice none 0 0] 100)).cell? ⟨w.heap.size, 3, none⟩ = some (.slice (some ⟨kb, koff, none⟩) kids.length kc) := by simp [go_sem]
  have y4 : ((w.alloc (Obj.cells #[.int .i64 k, .string s, .int .i64 n, .slice (some ⟨kb, koff, none⟩) kids.length kc, .slice a l.length c] 100)).alloc (Obj.cells #[.int .i64 0, .string ⟨#[]⟩, .int .i64 0, .slice none 0 0, .slice none 0 0] 100)).cell? ⟨w.heap.size, 4, none⟩ = some (.slice a l.length c) := by simp [go_sem]
  have z0 : ((w.alloc (Obj.cells #[.int .i64 k, .string s, .int .i64 n, .slice (some ⟨kb, koff, none⟩) kids.length kc, .slice a l.length c] 100)).alloc (Obj.cells #[.int .i64 0, .string ⟨#[]⟩, .int .i64 0, .slice none 0 0, .slice none 0 0] 100)).cell? ⟨w.heap.size + 1, 0, none⟩ = some (.int .i64 0) := by simp [go_sem]
  have z1 : ((w.alloc (Obj.cells #[.int .i64 k, .string s, .int .i64 n, .slice (some ⟨kb, koff, none⟩) kids.length kc, .slice a l.length c] 100)).alloc (Obj.cells #[.int .i64 0, .string ⟨#[]⟩, .int .i64 0, .slice none 0 0, .slice none 0 0] 100)).cell? ⟨w.heap.size + 1, 1, none⟩ = some (.string ⟨#[]⟩) := by simp [go_sem]
  have z2 : ((w.alloc (Obj.cells #[.int .i64 k, .string s, .int .i64 n, .slice (some ⟨kb, koff, none⟩) kids.length kc, .slice a l.length c] 100)).alloc (Obj.cells #[.int .i64 0, .string ⟨#[]⟩, .int .i64 0, .slice none 0 0, .slice none 0 0] 100)).cell? ⟨w.heap.size + 1, 2, none⟩ = some (.int .i64 0) := by simp [go_sem]
  have z3 : ((w.alloc (Obj.cells #[.int .i64 k, .string s, .int .i64 n, .slice (some ⟨kb, koff, none⟩) kids.length kc, .slice a l.length c] 100)).alloc (Obj.cells #[.int .i64 0, .string ⟨#[]⟩, .int .i64 0, .slice none 0 0, .slice none 0 0] 100)).cell? ⟨w.heap.size + 1, 3, none⟩ = some (.slice none 0 0) := by simp [go_sem]
  have z4 : ((w.alloc (Obj.cells #[.int .i64 k, .string s, .int .i64 n, .slice (some ⟨kb, koff, none⟩) kids.length kc, .slice a l.length c] 100)).alloc (Obj.cells #[.int .i64 0, .string ⟨#[]⟩, .int .i64 0, .slice none 0 0, .slice none 0 0] 100)).cell? ⟨w.heap.size + 1, 4, none⟩ = some (.slice none 0 0) := by simp [go_sem]
  have zf : ∀ q, ((w.alloc (Obj.cells #[.int .i64 k, .string s, .int .i64 n, .slice (some ⟨kb, koff, none⟩) kids.length kc, .slice a l.length c] 100)).alloc (Obj.cells #[.int .i64 0, .string ⟨#[]⟩, .int .i64 0, .slice none 0 0, .slice none 0 0] 100)).frozen? ⟨w.heap.size + 1, q, none⟩ = false := fun q => by simp [go_sem]
  have hzz : w.heap.size + 1 < ((w.alloc (Obj.cells #[.int .i64 k, .string s, .int .i64 n, .slice (some ⟨kb, koff, none⟩) kids.length kc, .slice a l.length c] 100)).alloc (Obj.cells #[.int .i64 0, .string ⟨#[]⟩, .int .i64 0, .slice none 0 0, .slice none 0 0] 100)).heap.size := by simp
  have kj2 := cell_stays b2 kj
  have h2 := h.stays b2
  have go_away : ∀ {lo' hi' : Nat} {v : Value} {q : List Int}, True := fun {_ _ _ _} => trivial
  go_enter Try.func87, Try.ntmps87
  go_wp2_with fail
  obtain ⟨B, hB⟩ : ∃ b, b = w.heap.size := ⟨_, rfl⟩
  rw [← hB] at y3 y4 z0 z1 z2 z3 z4 zf hzz ⊢
  have hBw : w.heap.size ≤ B := by omega
  clear hB go_away
  have hKi : ∀ {v : Value} {q : List Int}, IntsAt lo hi ((w.alloc (Obj.cells #[.int .i64 k, .string s, .int .i64 n, .slice (some ⟨kb, koff, none⟩) kids.length kc, .slice a l.length c] 100)).alloc (Obj.cells #[.int .i64 0, .string ⟨#[]⟩, .int .i64 0, .slice none 0 0, .slice none 0 0] 100)) v q → True := fun _ => trivial
  clear hKi
  generalize (w.alloc (Obj.cells #[.int .i64 k, .string s, .int .i64 n, .slice (some ⟨kb, koff, none⟩) kids.length kc, .slice a l.length c] 100)).alloc (Obj.cells #[.int .i64 0, .string ⟨#[]⟩, .int .i64 0, .slice none 0 0, .slice none 0 0] 100) = w2 at *
  have bD := (Below.refl w2.heap.size w2).drew
  refine region_last (fun y => y.cell? ⟨B, 3, none⟩ = some (.slice (some ⟨kb, koff, none⟩) kids.length kc) ∧ y.cell? ⟨B, 4, none⟩ = some (.slice a l.length c) ∧ y.cell? ⟨kb, koff + j, none⟩ = some (.int .i64 (xn : Int))) (by kernel_rfl) (by kernel_rfl) (by kernel_rfl) ⟨cell_stays bD y3, cell_stays bD y4, cell_stays bD kj2⟩ (fun hHeld => ?_)
  simp only [List.dropLast, List.length_cons, List.length_nil, Nat.reduceAdd]
  refine takeL (i := 0) (v := ?_) rfl (by kernel_rfl) (by kernel_rfl) (by kernel_rfl) (fun _ _ _ h => h) rfl (by assumption) ?_ ?_
  rotate_left
  · (intro wS hSw; (try dsimp only at hSw); go_simp; try with_reducible rfl)
  (try simp only [Act.put, List.setIfInBounds_toArray, List.set_cons_zero, List.set_cons_succ])
  refine takeL (i := 1) (v := ?_) rfl (by kernel_rfl) (by kernel_rfl) (by kernel_rfl) (fun _ _ _ h => h) rfl (by assumption) ?_ ?_
  rotate_left
  · (intro wS hSw; (try dsimp only at hSw); go_simp; try with_reducible rfl)
  (try simp only [Act.put, List.setIfInBounds_toArray, List.set_cons_zero, List.set_cons_succ])
  refine takeL (i := 2) (v := ?_) rfl (by kernel_rfl) (by kernel_rfl) (by kernel_rfl) (fun _ _ _ h => h) rfl (by assumption) ?_ ?_
  rotate_left
  · (intro wS hSw; (try dsimp only at hSw); go_simp; try with_reducible rfl)
  (try simp only [Act.put, List.setIfInBounds_toArray, List.set_cons_zero, List.set_cons_succ])
  refine takeL (i := 3) (v := ?_) rfl (by kernel_rfl) (by kernel_rfl) (by kernel_rfl) (fun _ _ _ h => h) rfl (by assumption) ?_ ?_
  rotate_left
  · (intro wS hSw; (try dsimp only at hSw); go_simp; try with_reducible rfl)
  (try simp only [Act.put, List.setIfInBounds_toArray, List.set_cons_zero, List.set_cons_succ])
  refine takeL (i := 4) (v := ?_) rfl (by kernel_rfl) (by kernel_rfl) (by kernel_rfl) (fun _ _ _ h => h) rfl (by assumption) ?_ ?_
  rotate_left
  · (intro wS hSw; (try dsimp only at hSw); go_simp; try with_reducible rfl)
  (try simp only [Act.put, List.setIfInBounds_toArray, List.set_cons_zero, List.set_cons_succ])
  refine takeL (i := 5) (v := ?_) rfl (by kernel_rfl) (by kernel_rfl) (by kernel_rfl) (fun _ _ _ h => h) rfl (by assumption) ?_ ?_
  rotate_left
  · (intro wS hSw; (try dsimp only at hSw); go_simp; try with_reducible rfl)
  (try simp only [Act.put, List.setIfInBounds_toArray, List.set_cons_zero, List.set_cons_succ])
  refine takeL (i := 6) (v := ?_) rfl (by kernel_rfl) (by kernel_rfl) (by kernel_rfl) (fun _ _ _ h => h) rfl (by assumption) ?_ ?_
  rotate_left
  · (intro wS hSw; (try dsimp only at hSw); go_simp; try with_reducible rfl)
  (try simp only [Act.put, List.setIfInBounds_toArray, List.set_cons_zero, List.set_cons_succ])
  refine takeL (i := 7) (v := ?_) rfl (by kernel_rfl) (by kernel_rfl) (by kernel_rfl) (fun _ _ _ h => h) rfl (by assumption) ?_ ?_
  rotate_left
  · (intro wS hSw; (try dsimp only at hSw); go_simp; try with_reducible rfl)
  (try simp only [Act.put, List.setIfInBounds_toArray, List.set_cons_zero, List.set_cons_succ])
  refine stepL (i := 8) rfl (by kernel_rfl) (fun K hK => ?_)
  rw [if_pos (by rfl)]
  go_simp
  go_at_call 63
  refine Calls.mono (headOf_any a c l xn w2.drew (h2.stays bD) hxl) ?_
  rintro e w3 ⟨⟨qa, qc, rfl, Q⟩, hb3⟩
  have b3 : Below w2.heap.size w2 w3 := bD.trans hb3
  have u0 := cell_stays b3 z0
  have u1 := cell_stays b3 z1
  have u2 := cell_stays b3 z2
  have u3 := cell_stays b3 z3
  have u4 := cell_stays b3 z4
  have uf : ∀ q, w3.frozen? ⟨B + 1, q, none⟩ = false := fun q => by rw [b3.frozen (by exact hzz)]; exact zf q
  have bW := b2.trans (b3.mono b2.size)
  (try simp only [])
  refine hK.out _ _ ⟨cell_stays b3 y3, cell_stays b3 y4, cell_stays b3 kj2⟩ (fun hHeld3 => ?_)
  clear hK K hHeld
  (try simp only [Act.put, List.setIfInBounds_toArray, List.set_cons_zero, List.set_cons_succ])
  refine wpAnyH_done (by kernel_rfl) ?_ _
  refine lastL (n := 9) rfl rfl ?_
  go_simp
  clear hHeld3
  have Q' := KidsOf.back h hxl (b2.trans (bD.mono b2.size)) Q
  go_wp2
  refine bodyPost_ret (v := .agg #[.int .i64 (ndAt l xn).k, .string (ndAt l xn).s, .int .i64 (ndAt l xn).n, .slice qa (ndAt l xn).kids.length qc, .slice a l.length c]) (by simp [results, Try.results87, go_sem, u0, u1, u2, u3, u4]) rfl ⟨⟨qa, qc, rfl, Q'⟩, ?_⟩
  repeat (first | exact bW | refine Below.setCell ?_ (by show w.heap.size ≤ B + 1; omega) _)

end Go.Proofs.Ytjikmpdgednlaaa
