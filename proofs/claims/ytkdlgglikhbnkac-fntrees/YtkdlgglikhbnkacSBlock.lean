/- The specification's reader: blocks, and all levels. -/
import Derived.Test.YtkdlgglikhbnkacSStmt2
namespace Go.Proofs.Ytkdlgglikhbnkac
open Go.ChangeShapes Go.WideShapes Go.ChangeAt Go.RowKit
set_option linter.unusedVariables false
set_option maxRecDepth 100000
attribute [local go_sem ↓] Go.wp_at_zero Go.wp_at_succ

/-- What is still to come of a block. -/
def BlkR (T : List Tk) (TOP : PR Nat) (d n m : Nat) (kids : List Int) (r : PR Unit) : Prop := match r with
  | .ok _ i' ns' => T.length - i' ≤ m ∧ m ≤ n ∧ kids.length ≤ i' ∧ TOP = (blockLG T (fns T m) (d + 1) kids i' ns').then fun kids i ns => (skipF T (ByteArray.mk #[125]) i ns).then fun _ i ns => putF ⟨27, empS, 0, kids⟩ i ns
  | .bad i' => kids.length ≤ 6001 ∧ TOP = .bad i'

set_option maxHeartbeats 8000000 in
theorem sblock_step {base rb : Nat} {T : List Tk} {tv pv : Value} {n : Nat} (hT : Goods T) (hSt : ∀ m, m ≤ n → SStmtC base rb T tv pv m) : SBlockC base rb T tv pv n := by
  intro w i d nv q h hn
  have hq0 := h.hq
  have hi0 := h.hi
  have hT6 : T.length ≤ 6000 := by obtain ⟨_, _, _, h, _⟩ := h.words; exact h
  obtain ⟨TOP, hTOP⟩ : ∃ r, blockG T (fns T n) d i (qnds q) = r := ⟨_, rfl⟩
  rw [hTOP]
  have hres : Hid (TOP = blockG T (fns T n) d i (qnds q)) := hTOP.symm
  clear hTOP
  obtain ⟨iI, hII, hzi0, hzi1, hzi2⟩ := info_parts infoI
  go_enter Try.func43, Try.ntmps43
  by_cases hd : d = 30
  · subst hd
    go_wp2_with fail
    refine (sdown_deep h).mono ?_
    rintro e w1 ⟨rfl, h1, f1⟩
    go_wp2
    rw [hres.out, blockG_deep]
    go_ret
    exact ⟨0, rfl, h1, f1.gz nv⟩
  replace hres := hres.out; rw [blockG_not hd] at hres; change Hid _ at hres
  go_wp2_with fail
  refine (sdown_any h hd).mono ?_
  rintro e w1 ⟨rfl, h1, m1⟩
  have s1 : SAt base rb T tv pv w nv q i 0 0 (d + 1) [] w1 (PR.ok () i (qnds q)) := ⟨nv, q, h1, rfl, m1, by omega, by omega, fun g hg => by cases hg⟩
  go_wp2_with fail
  refine (want_s hT s1 ask_begin).mono ?_
  rintro e w2 ⟨rfl, s2, -⟩
  have hst : ∃ r : PR Unit, SAt base rb T tv pv w nv q i 1 1 (d + 1) [] w2 r ∧ Hid (BlkR T TOP d n n [] r) := by
    rw [PR.then_ok] at s2
    refine ⟨_, s2, ?_⟩
    rcases hs : skipF T (ByteArray.mk #[123]) i (qnds q) with ⟨u, i2, ns2⟩ | i2
    · obtain ⟨fa, fb⟩ := skipF_ok hs
      rw [PR.then_ok]
      exact ⟨by omega, Nat.le_refl _, Nat.zero_le _, by rw [hres.out, hs, PR.then_ok]⟩
    · rw [PR.then_bad]
      exact ⟨by simp, by rw [hres.out, hs, PR.then_bad]⟩
  clear s2 s1 hres
  obtain ⟨r, s2, hbl⟩ := hst
  have o0 : w2.ownsRow base 3 1 (.slice none 0 0) 0 (icells []) := World.ownsRow_nil _ _ _ _
  go_wp2_with fail
  go_loopw [3] (fun t3 wr => ∃ (m : Nat) (kids : List Int) (r : PR Unit) (ka : Option Addr) (kc : Nat) (L : List Nat), t3 = .slice ka kids.length kc ∧ SAt base rb T tv pv w nv q i 1 1 (d + 1) L wr r ∧ wr.ownsRow base 3 1 (.slice ka kids.length kc) kids.length (icells kids) ∧ (∀ g, (Value.slice ka kids.length kc).ownBlock = some g → g ∈ L) ∧ Hid (BlkR T TOP d n m kids r)) (fun _ wr => sFar wr rb T.length)
  case atStart => exact ⟨n, [], r, none, 0, [], rfl, s2, o0, fun g hg => (by cases hg), hbl⟩
  case round =>
    clear o0 hbl s2 r
    rename World => wo
    obtain ⟨m, kids, r, ka, kc, L, rfl, hS, hO, hL, hbl⟩ := hrel
    rcases r with ⟨u, i', ns'⟩ | i'
    · obtain ⟨nv', q', hR, hqs, hM, hii, hlen, hOw⟩ := id hS
      obtain ⟨hm, hmn, hkl, hres⟩ := hbl.out
      subst hqs
      change Hid _ at hres
      clear hbl
      have hpo := hR.far
      change Hid _ at hpo
      have hqi := hR.hq
      have hti := hR.hi
      have c5 : wo.cell? ⟨rb, 5, none⟩ = some (.bool false) := hR.row.cell (by omega)
      have hdec := is_any hR.wd (ByteArray.mk #[125])
      rw [isB_text hT i' ask_end] at hdec
      by_cases hsee : wS T i' = (ByteArray.mk #[125])
      · rw [decide_eq_true hsee] at hdec
        replace hres := hres.out; rw [blockLG_end hsee, PR.then_ok] at hres; change Hid _ at hres
        clear hsee
        go_wp2_with fail
        refine hdec.mono ?_
        clear hdec
        rintro e wq ⟨rfl, hbq⟩
        have hSq := hS.stays hbq
        have hOq := own_keep (w' := wq) hO fun g hg hl => hbq.block g hl
        go_wp2_with fail
        refine (want_s hT hSq ask_end).mono ?_
        rintro e w21 ⟨rfl, s21, k21⟩
        have o21 := own_keep (w' := w21) hOq fun g hg _ => k21 g (hL g hg)
        obtain ⟨x22, c22, z22, s22, k22⟩ := s21.up
        have o22 := own_keep (w' := w21.setCell ⟨rb, 2, none⟩ (.int .i64 (wrap64 (x22 - 1)))) o21 fun g hg _ => k22 g (hL g hg)
        go_wp2_with fail
        refine (nodeL_s s22 ⟨27, empS, 0, kids⟩ (fun _ => ⟨27, empS, 0, kids⟩) (Val.con _) rfl o22 hL hq0).mono ?_
        rintro e w23 ⟨k23, rfl, s23, v23⟩
        go_wp2
        go_ret
        rw [hres.out]
        simp only [PR.then_ok, PR.then_assoc] at s23 v23
        exact done_s s23 v23 0 (by omega) (by omega)
      · rw [decide_eq_false hsee] at hdec
        replace hres := hres.out; rw [blockLG_more hsee] at hres; change Hid _ at hres
        clear hsee
        go_wp2_with fail
        refine hdec.mono ?_
        clear hdec
        rintro e wq ⟨rfl, hbq⟩
        have mq := Mv.of_below (rb := rb) (nv := nv') (q := q') hbq
        have hOq := own_keep (w' := wq) hO fun g hg hl => hbq.block g hl
        have hMq := hM.trans mq
        have hOwq := hOw.mv mq
        go_wp2_with fail
        refine (hSt m hmn wq i' (d + 1) nv' q' (hR.stays hbq) hm).mono ?_
        rcases hs : stmtG T (fns T m) (d + 1) i' (qnds q') with ⟨k, i6, ns6⟩ | ib
        · rintro e w6 ⟨rfl, nv6, q6, hR6, rfl, m6, fa6, fb6⟩
          have fc6 := hR6.hi
          obtain ⟨m1, rfl⟩ : ∃ m1, m = m1 + 1 := ⟨m - 1, by omega⟩
          replace hres := hres.out; rw [hs] at hres; rw [PR.then_ok, fns_blockL] at hres; change Hid _ at hres
          clear hs
          have s6 : SAt base rb T tv pv w nv q i 1 1 (d + 1) L w6 (PR.ok () i6 (qnds q6)) := ⟨nv6, q6, hR6, rfl, hMq.trans m6, by omega, by omega, hOwq.mv m6⟩
          have o6 := own_keep (w' := w6) hOq fun g hg _ => hOwq.same m6 (hL g hg)
          have hb6 := s6.base_le
          go_wp2_with (at_builtin; refine wpList_append_lies _ rfl _ _ 31 rfl base 3 iI _ 1 8 Try.underlying31 hII hzi0 hzi1 hzi2 rfl (by decide) _ kids.length (icells kids) rfl (o6.alloc _) ⟨w6.heap.size, 0, none⟩ 1 1 [.int .i64 (k : Int)] rfl rfl (World.news_of_block (heap_alloc_new w6 _)) (by simp [Value.oneCell']) (by simp) (by unfold maxLen; omega) (by omega) (by simp; omega) (w6.heap.size + 1) (by simp) ?_; intro g7 cap7 w7 hown7 hgrow7 hat7 hlt7)
          obtain ⟨s7, o7⟩ := SAt.grown (l := kids) s6 o6 hL hown7 hgrow7 hat7
          clear hown7 hgrow7 hat7 hlt7
          obtain ⟨nv7, q7, hR7, hq7, hM7, h71, h72, hO7⟩ := id s7
          have hp := hR7.far
          change Hid _ at hp
          go_roundw
          case rel =>
            refine ⟨m1, kids ++ [(k : Int)], PR.ok () i6 (qnds q6), some ⟨g7, 0, none⟩, cap7, [g7], by simp, s7, o7, fun g hg => ?_, ?_⟩
            · have hg' : some g7 = some g := hg
              injection hg' with hg'
              simp [hg']
            · exact ⟨by omega, by omega, by simp; omega, hres.out⟩
          case measure => rw [hpo.out, hp.out]; omega
        · rintro e w6 ⟨k, rfl, hB6, hG6⟩
          replace hres := hres.out; rw [hs] at hres; rw [PR.then_bad, PR.then_bad] at hres; change Hid _ at hres
          clear hs
          have s6 : SAt base rb T tv pv w nv q i 1 1 (d + 1) L w6 (PR.bad ib : PR Unit) := ⟨hB6, hMq.thenGz hG6, hOwq.toBad hG6.size⟩
          have o6 := own_keep (w' := w6) hOq fun g hg _ => hOwq.sameG hG6 (hL g hg)
          have hb6 := s6.base_le
          go_wp2_with (at_builtin; refine wpList_append_lies _ rfl _ _ 31 rfl base 3 iI _ 1 8 Try.underlying31 hII hzi0 hzi1 hzi2 rfl (by decide) _ kids.length (icells kids) rfl (o6.alloc _) ⟨w6.heap.size, 0, none⟩ 1 1 [.int .i64 k] rfl rfl (World.news_of_block (heap_alloc_new w6 _)) (by simp [Value.oneCell']) (by simp) (by unfold maxLen; omega) (by omega) (by simp; omega) (w6.heap.size + 1) (by simp) ?_; intro g7 cap7 w7 hown7 hgrow7 hat7 hlt7)
          obtain ⟨s7, o7⟩ := SAt.grown (l := kids) s6 o6 hL hown7 hgrow7 hat7
          clear hown7 hgrow7 hat7 hlt7
          have hp := s7.1.far
          change Hid _ at hp
          go_roundw
          case rel =>
            refine ⟨m, kids ++ [k], PR.bad ib, some ⟨g7, 0, none⟩, cap7, [g7], by simp, s7, o7, fun g hg => ?_, ?_⟩
            · have hg' : some g7 = some g := hg
              injection hg' with hg'
              simp [hg']
            · exact ⟨by simp; omega, hres.out⟩
          case measure => rw [hpo.out, hp.out]; omega
    · obtain ⟨hB, hG, hOw⟩ := id hS
      obtain ⟨hkl, hres⟩ := hbl.out
      change Hid _ at hres
      clear hbl
      obtain ⟨d3, nv3, pv3, hr3⟩ := hB.row
      have c5 : wo.cell? ⟨rb, 5, none⟩ = some (.bool true) := hr3.cell (by omega)
      go_wp2_with fail
      refine (want_s hT hS ask_end).mono ?_
      rintro e w21 ⟨rfl, s21, k21⟩
      have o21 := own_keep (w' := w21) hO fun g hg _ => k21 g (hL g hg)
      obtain ⟨x22, c22, z22, s22, k22⟩ := s21.up
      have o22 := own_keep (w' := w21.setCell ⟨rb, 2, none⟩ (.int .i64 (wrap64 (x22 - 1)))) o21 fun g hg _ => k22 g (hL g hg)
      go_wp2_with fail
      refine (nodeL_s s22 ⟨27, empS, 0, kids⟩ (fun _ => ⟨27, empS, 0, kids⟩) (Val.con _) rfl o22 hL hq0).mono ?_
      rintro e w23 ⟨k23, rfl, s23, v23⟩
      go_wp2
      go_ret
      rw [hres.out]
      simp only [PR.then_bad] at s23 v23
      exact done_s s23 v23 0 (by omega) (by omega)

structure SLv (base rb : Nat) (T : List Tk) (tv pv : Value) (n : Nat) : Prop where
  signed : SSignedC base rb T tv pv n
  product : SProductC base rb T tv pv n
  expr : SExprC base rb T tv pv n
  stmt : SStmtC base rb T tv pv n
  block : SBlockC base rb T tv pv n

theorem sall_levels (base rb : Nat) (T : List Tk) (hT : Goods T) (tv pv : Value) (n : Nat) : SLv base rb T tv pv n := by
  induction n using Nat.strongRecOn with
  | _ n ih =>
    have hs : SSignedC base rb T tv pv n := ssigned_step hT (fun m hm => (ih m (by omega)).signed) (fun m hm => (ih m (by omega)).expr)
    have hsA : ∀ m, m ≤ n → SSignedC base rb T tv pv m := fun m hm => by
      by_cases e : m = n
      · subst e; exact hs
      · exact (ih m (by omega)).signed
    have hp : SProductC base rb T tv pv n := sproduct_step hT hsA
    have hpA : ∀ m, m ≤ n → SProductC base rb T tv pv m := fun m hm => by
      by_cases e : m = n
      · subst e; exact hp
      · exact (ih m (by omega)).product
    have he : SExprC base rb T tv pv n := sexpr_step hT (ssum_step hT hpA)
    have hb : ∀ m, m + 1 = n → SBlockC base rb T tv pv m := fun m hm => (ih m (by omega)).block
    have hst : SStmtC base rb T tv pv n := sstmt_step hT he (srow_step hT he) hb
    have hstA : ∀ m, m ≤ n → SStmtC base rb T tv pv m := fun m hm => by
      by_cases e : m = n
      · subst e; exact hst
      · exact (ih m (by omega)).stmt
    exact ⟨hs, hp, he, hst, sblock_step hT hstA⟩

end Go.Proofs.Ytkdlgglikhbnkac
