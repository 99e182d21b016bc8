/- The program's kids as statements. -/
import Derived.Test.YtjikmpdgednlaaaYHead
namespace Go.Proofs.Ytjikmpdgednlaaa
open Go.ChangeShapes Go.WideShapes Go.ChangeAt Go.RowKit
set_option linter.unusedVariables false
set_option maxRecDepth 100000
attribute [local go_sem ↓] Go.wp_at_zero Go.wp_at_succ

theorem build_statement (k : Int) (s : ByteArray) (n : Int) (ka : Option Addr) (m kc : Nat) (a : Option Addr) (q c : Nat) (w : World) : (Instr.build 121 #[(0, .agg #[.int .i64 k, .string s, .int .i64 n, .slice ka m kc, .slice a q c])]).run Try.prog w = .ok (.agg #[.int .i64 k, .string s, .int .i64 n, .slice ka m kc, .slice a q c]) w := by kernel_rfl

set_option maxHeartbeats 4000000 in
theorem statement_any (a : Option Addr) (c : Nat) (l : List Nd) (k : Int) (s : ByteArray) (n : Int) (ka : Option Addr) (m kc j xn : Nat) (kids : List Int) (w : World) {lo hi : Nat} (h : NodesAt lo hi w (.slice a l.length c) l) (hk : IntsAt lo hi w (.slice ka m kc) kids) (hm : m = kids.length) (hj : j < kids.length) (hx : iAt kids j = (xn : Int)) (hxl : xn < l.length) :
    Calls Try.prog 81 #[.agg #[.int .i64 k, .string s, .int .i64 n, .slice ka m kc, .slice a l.length c], .int .i64 (j : Int)] w fun e w' => (∃ qa qc, e = .returned (.agg #[.int .i64 (ndAt l xn).k, .string (ndAt l xn).s, .int .i64 (ndAt l xn).n, .slice qa (ndAt l xn).kids.length qc, .slice a l.length c]) ∧ KidsOf w a l xn qa qc) ∧ Below w.heap.size w w' := by
  have b2 : Below w.heap.size w ((w.alloc (Obj.cells #[.int .i64 k, .string s, .int .i64 n, .slice ka m kc, .slice a l.length c] 100)).alloc (Obj.cells #[.int .i64 0, .string ⟨#[]⟩, .int .i64 0, .slice none 0 0, .slice none 0 0] 121)) := ((Below.refl _ _).alloc (Nat.le_refl _) _).alloc (by simp) _
  have z0 : ((w.alloc (Obj.cells #[.int .i64 k, .string s, .int .i64 n, .slice ka m kc, .slice a l.length c] 100)).alloc (Obj.cells #[.int .i64 0, .string ⟨#[]⟩, .int .i64 0, .slice none 0 0, .slice none 0 0] 121)).cell? ⟨w.heap.size + 1, 0, none⟩ = some (.int .i64 0) := by simp [go_sem]
  have z1 : ((w.alloc (Obj.cells #[.int .i64 k, .string s, .int .i64 n, .slice ka m kc, .slice a l.length c] 100)).alloc (Obj.cells #[.int .i64 0, .string ⟨#[]⟩, .int .i64 0, .slice none 0 0, .slice none 0 0] 121)).cell? ⟨w.heap.size + 1, 1, none⟩ = some (.string ⟨#[]⟩) := by simp [go_sem]
  have z2 : ((w.alloc (Obj.cells #[.int .i64 k, .string s, .int .i64 n, .slice ka m kc, .slice a l.length c] 100)).alloc (Obj.cells #[.int .i64 0, .string ⟨#[]⟩, .int .i64 0, .slice none 0 0, .slice none 0 0] 121)).cell? ⟨w.heap.size + 1, 2, none⟩ = some (.int .i64 0) := by simp [go_sem]
  have z3 : ((w.alloc (Obj.cells #[.int .i64 k, .string s, .int .i64 n, .slice ka m kc, .slice a l.length c] 100)).alloc (Obj.cells #[.int .i64 0, .string ⟨#[]⟩, .int .i64 0, .slice none 0 0, .slice none 0 0] 121)).cell? ⟨w.heap.size + 1, 3, none⟩ = some (.slice none 0 0) := by simp [go_sem]
  have z4 : ((w.alloc (Obj.cells #[.int .i64 k, .string s, .int .i64 n, .slice ka m kc, .slice a l.length c] 100)).alloc (Obj.cells #[.int .i64 0, .string ⟨#[]⟩, .int .i64 0, .slice none 0 0, .slice none 0 0] 121)).cell? ⟨w.heap.size + 1, 4, none⟩ = some (.slice none 0 0) := by simp [go_sem]
  have zf : ∀ q, ((w.alloc (Obj.cells #[.int .i64 k, .string s, .int .i64 n, .slice ka m kc, .slice a l.length c] 100)).alloc (Obj.cells #[.int .i64 0, .string ⟨#[]⟩, .int .i64 0, .slice none 0 0, .slice none 0 0] 121)).frozen? ⟨w.heap.size + 1, q, none⟩ = false := fun q => by simp [go_sem]
  have hzz : w.heap.size + 1 < ((w.alloc (Obj.cells #[.int .i64 k, .string s, .int .i64 n, .slice ka m kc, .slice a l.length c] 100)).alloc (Obj.cells #[.int .i64 0, .string ⟨#[]⟩, .int .i64 0, .slice none 0 0, .slice none 0 0] 121)).heap.size := by simp
  have h2 := h.stays b2
  have hk2 := hk.stays b2
  have bs := build_statement
  change Hid _ at hm
  change Hid _ at hx
  go_enter Try.func81, Try.ntmps81
  go_wp2_with (go_at_call 87; refine (kid_any a c l k s n ka m kc j xn kids _ h2 hk2 hm.out hj hx.out hxl).mono ?_; rintro e w3 ⟨⟨qa, qc, rfl, Q⟩, b3⟩; have u0 := cell_stays b3 z0; have u1 := cell_stays b3 z1; have u2 := cell_stays b3 z2; have u3 := cell_stays b3 z3; have u4 := cell_stays b3 z4; have uf : ∀ q, w3.frozen? ⟨w.heap.size + 1, q, none⟩ = false := fun q => by rw [b3.frozen (by exact hzz)]; exact zf q)
  have bW := b2.trans (b3.mono b2.size)
  have Q' := KidsOf.back h hxl b2 Q
  refine bodyPost_ret (v := .agg #[.int .i64 (ndAt l xn).k, .string (ndAt l xn).s, .int .i64 (ndAt l xn).n, .slice qa (ndAt l xn).kids.length qc, .slice a l.length c]) (by simp [results, Try.results81, go_sem, u0, u1, u2, u3, u4]) rfl ⟨⟨qa, qc, rfl, Q'⟩, ?_⟩
  repeat (first | exact bW | refine Below.setCell ?_ (by simp) _)

end Go.Proofs.Ytjikmpdgednlaaa
