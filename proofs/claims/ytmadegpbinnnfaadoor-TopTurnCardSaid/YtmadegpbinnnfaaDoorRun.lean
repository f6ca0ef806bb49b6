/-
  WALKS: recipe.Run: what every command of at most 1000 bytes comes to (all cases together).
-/
import Derived.Test.YtmadegpbinnnfaaDoorRunC
import Derived.Test.YtmadegpbinnnfaaDoorRunB
namespace Go.Proofs.YtmadegpbinnnfaaDoor
open Go.RowKit

theorem run_any (g : Nat) (base : List F) (needs targets : List ByteArray) (own : List F) (cmd : ByteArray) (w : World) (h : OvA w g base needs targets own) (hsm : Small base needs targets own) (hm : MaxOk w) (hc : cmd.size ≤ 1000) :
    Calls Tryd.prog 17 #[.pointer (some ⟨g, 0, none⟩), .string cmd] w (RunPost g base needs targets (runR base needs targets own (words cmd)) w) := by
  have hp := words_pos cmd
  have hl := words_len cmd
  generalize hws : words cmd = ws at hp hl ⊢
  generalize hn : ws.length = n at hp hl
  have hn9 : n ≤ 1001 := by omega
  have w0 : ws[0]? = some (wd ws 0) := wd_at (by omega)
  by_cases a1 : wd ws 0 = cPut
  · rw [a1] at w0
    by_cases b : 3 ≤ n
    · exact run_put g base needs targets own cmd ws n _ (wd ws 1) w h hsm hm hc hws hn hn9 w0 (wd_at (by omega)) b (by simp [runR, a1, hn, b])
    · exact run_put_no g base needs targets own cmd ws n _ w h hsm hm hc hws hn hn9 w0 (by omega) (by simp [runR, a1, hn, b, cPut, cCopy, cTurn, cSwap, cJoin, cNeed, cFail])
  by_cases a2 : wd ws 0 = cCopy
  · rw [a2] at w0
    by_cases b : n = 3
    · exact run_copy g base needs targets own cmd ws n _ (wd ws 1) (wd ws 2) w h hsm hm hc hws hn hn9 w0 (wd_at (by omega)) (wd_at (by omega)) b (by simp [runR, a2, hn, b, cPut, cCopy])
    · exact run_copy_no g base needs targets own cmd ws n _ w h hsm hm hc hws hn hn9 w0 b (by simp [runR, a2, hn, b, cPut, cCopy, cTurn, cSwap, cJoin, cNeed, cFail])
  by_cases a3 : wd ws 0 = cTurn
  · rw [a3] at w0
    by_cases b : n = 3
    · exact run_turn g base needs targets own cmd ws n _ (wd ws 1) (wd ws 2) w h hsm hm hc hws hn hn9 w0 (wd_at (by omega)) (wd_at (by omega)) b (by simp [runR, a3, hn, b, cPut, cCopy, cTurn])
    · exact run_turn_no g base needs targets own cmd ws n _ w h hsm hm hc hws hn hn9 w0 b (by simp [runR, a3, hn, b, cPut, cCopy, cTurn, cSwap, cJoin, cNeed, cFail])
  by_cases a4 : wd ws 0 = cSwap
  · rw [a4] at w0
    by_cases b : n = 5
    · by_cases s3 : (wd ws 3).size = 1
      · by_cases s4 : (wd ws 4).size = 1
        · exact run_swap g base needs targets own cmd ws n _ (wd ws 1) (wd ws 2) (wd ws 3) (wd ws 4) w h hsm hm hc hws hn hn9 w0 (wd_at (by omega)) (wd_at (by omega)) (wd_at (by omega)) (wd_at (by omega)) b s3 s4 (by simp [runR, a4, hn, b, s3, s4, cPut, cCopy, cTurn, cSwap])
        · exact run_swap_n4 g base needs targets own cmd ws n _ (wd ws 3) (wd ws 4) w h hsm hm hc hws hn hn9 w0 (wd_at (by omega)) (wd_at (by omega)) b s3 s4 (by simp [runR, a4, hn, b, s3, s4, cPut, cCopy, cTurn, cSwap, cJoin, cNeed, cFail])
      · exact run_swap_n3 g base needs targets own cmd ws n _ (wd ws 3) w h hsm hm hc hws hn hn9 w0 (wd_at (by omega)) b s3 (by simp [runR, a4, hn, b, s3, cPut, cCopy, cTurn, cSwap, cJoin, cNeed, cFail])
    · exact run_swap_no g base needs targets own cmd ws n _ w h hsm hm hc hws hn hn9 w0 b (by simp [runR, a4, hn, b, cPut, cCopy, cTurn, cSwap, cJoin, cNeed, cFail])
  by_cases a5 : wd ws 0 = cJoin
  · rw [a5] at w0
    by_cases b : 3 ≤ n
    · exact run_join g base needs targets own cmd ws n _ (wd ws 1) w h hsm hm hc hws hn hn9 w0 (wd_at (by omega)) b (by simp [runR, a5, hn, b, cPut, cCopy, cTurn, cSwap, cJoin])
    · exact run_join_no g base needs targets own cmd ws n _ w h hsm hm hc hws hn hn9 w0 (by omega) (by simp [runR, a5, hn, b, cPut, cCopy, cTurn, cSwap, cJoin, cNeed, cFail])
  by_cases a6 : wd ws 0 = cNeed
  · rw [a6] at w0
    by_cases b : n = 2
    · exact run_need g base needs targets own cmd ws n _ (wd ws 1) w h hsm hm hc hws hn hn9 w0 (wd_at (by omega)) b (by simp [runR, a6, hn, b, cPut, cCopy, cTurn, cSwap, cJoin, cNeed])
    · exact run_need_no g base needs targets own cmd ws n _ w h hsm hm hc hws hn hn9 w0 b (by simp [runR, a6, hn, b, cPut, cCopy, cTurn, cSwap, cJoin, cNeed, cFail])
  by_cases a7 : wd ws 0 = cFail
  · rw [a7] at w0
    by_cases b : n = 1
    · exact run_fail g base needs targets own cmd ws n _ w h hsm hm hc hws hn hn9 w0 b (by simp [runR, a7, hn, b, cPut, cCopy, cTurn, cSwap, cJoin, cNeed, cFail])
    · exact run_fail_no g base needs targets own cmd ws n _ w h hsm hm hc hws hn hn9 w0 b (by simp [runR, a7, hn, b, cPut, cCopy, cTurn, cSwap, cJoin, cNeed, cFail])
  exact run_none g base needs targets own cmd ws n _ (wd ws 0) w h hsm hm hc hws hn hn9 w0 a1 a2 a3 a4 a5 a6 a7 (by simp [runR, a1, a2, a3, a4, a5, a6, a7])
end Go.Proofs.YtmadegpbinnnfaaDoor
