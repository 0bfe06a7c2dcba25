/- The walk of PathBack, up to the second form's bound. -/
import Derived.Test.YtcmidcpogcejfaaAwake
import Derived.Test.YtcmidcpogcejfaaReadPath
namespace Go.Proofs.Ytcmidcpogcejfaa.U
open Go.RowKit

theorem path_few {xs : List (List UInt8)} (h : Pt.check xs = 0) : Few xs := by
  have h1 := Pt.check_zero h
  exact ⟨by omega, fun x hx => by have := Pt.right_len (h1.2.2 x hx); omega⟩
theorem path_split {xs : List (List UInt8)} (h : Pt.check xs = 0) : splitL (Nm.joined xs) = xs := by
  have h1 := Pt.check_zero h
  exact (splitL_some (Nm.split_joined xs (fun e => by rw [e] at h1; simp at h1))).1
/-- A path's text is parsed as that path. -/
theorem back_parse {xs : List (List UInt8)} (h : Pt.check xs = 0) (w : World) :
    Calls Try.prog 22 #[.string ⟨(Nm.joined xs).toArray⟩] w fun e w' => ∃ v, e = .returned (.tuple #[v, .int .i64 0]) ∧ strsAt w' v xs ∧ Below w.heap.size w w' := by
  have hl := (path_few h).joined
  have k := parse_any ⟨(Nm.joined xs).toArray⟩ w (by simp [ByteArray.size]; omega)
  have e1 : splitL (⟨(Nm.joined xs).toArray⟩ : ByteArray).data.toList = xs := path_split h
  have e2 : perr (⟨(Nm.joined xs).toArray⟩ : ByteArray).data.toList = 0 := by unfold perr; rw [e1]; exact h
  rw [parsed_ok e2, e2, e1] at k
  exact k

set_option maxRecDepth 20000 in
set_option maxHeartbeats 2000000 in
theorem pathBack_walk (va : Value) (xs : List (List UInt8)) (w : World) (hx : xs.length ≤ 2000000) (hz : ∀ x ∈ xs, x.length ≤ 2000000) (ha : strsAt w va xs) :
    Calls Try.prog 6 #[va] w fun e w' => e = .returned (.bool true) ∧ Below w.heap.size w w' := by
  have C := refCheck_any va xs w (by omega) hz ha
  by_cases h0 : Pt.check xs = 0
  · have hf := path_few h0
    have hp := h0
    rw [h0] at C
    have hn := (Pt.check_zero h0).2.1
    have hcl := hf.code
    clear hz h0
    go_enter Try.func6, Try.ntmps6
    go_wp2_with fail
    refine C.mono ?_
    rintro e w1 ⟨rfl, b1⟩
    go_wp2_with fail
    refine (text_any va xs w1 hf (strsAt_below ha b1 (Nat.le_refl _))).mono ?_
    rintro e w2 ⟨rfl, d2⟩
    have b2 := bchain b1 d2
    go_wp2_with fail
    refine (back_parse hp w2).mono ?_
    rintro e w3 ⟨vq, rfl, k3, d3⟩
    have b3 := bchain b2 d3
    go_wp2_with fail
    refine (code_any va xs w3 hf (strsAt_below ha b3 (Nat.le_refl _))).mono ?_
    rintro e w4 ⟨rfl, d4⟩
    have b4 := bchain b3 d4
    have k4 := strsAt_below k3 d4 (Nat.le_refl _)
    go_wp2_with fail
    refine (open_rd _ w4).mono ?_
    rintro e w5 ⟨b, rfl, hbb, hr5, d5⟩
    have b5 := bchain b4 d5
    have k5 := strsAt_below k4 d5 (Nat.le_refl _)
    have wb : w.heap.size ≤ b := Nat.le_trans b4.size hbb
    have hr5' : Rd w5 b (Pt.code xs ++ []) 0 := by rw [List.append_nil]; exact hr5
    have S1 := same_any va vq xs xs w5 hx (strsAt_below ha b5 (Nat.le_refl _)) k5
    rw [decide_eq_true rfl] at S1
    clear hr5
    go_wp2_with fail
    refine S1.mono ?_
    rintro e w6 ⟨rfl, d6⟩
    have b6 := bchain b5 d6
    go_wp2_with fail
    refine (read_ok hp hf (by simp) (hr5'.on d6)).mono ?_
    rintro e w7 ⟨u, rfl, k7, hr7, d7⟩
    have b7 : Below w.heap.size w w7 := b6.trans (d7.below wb b6.size)
    have S2 := same_any u va xs xs w7 hx k7 (strsAt_below ha b7 (Nat.le_refl _))
    rw [decide_eq_true rfl] at S2
    go_wp2_with fail
    refine S2.mono ?_
    rintro e w8 ⟨rfl, d8⟩
    have b8 := bchain b7 d8
    go_wp2_with fail
    refine (end_rd (hr7.on d8)).mono ?_
    rintro e w9 ⟨rfl, _, d9⟩
    have b9 : Below w.heap.size w w9 := b8.trans (d9.below wb b8.size)
    have e9 : rdEnd [] 0 = 0 := rfl
    rw [e9]
    go_wp2_with fail
    refine (awake_any _).mono ?_
    rintro e w10 ⟨rfl, d10⟩
    go_wp2
    go_ret
    exact ⟨rfl, bchain b9 d10⟩
  · have hne : (((Pt.check xs : Nat) : Int) != 0) = true := by simpa using h0
    clear hz h0
    generalize Pt.check xs = q at *
    go_enter Try.func6, Try.ntmps6
    go_wp2_with fail
    refine C.mono ?_
    rintro e w1 ⟨rfl, b1⟩
    go_wp2_with fail
    refine (awake_any _).mono ?_
    rintro e w2 ⟨rfl, b2⟩
    go_wp2
    go_ret
    exact ⟨rfl, bchain b1 b2⟩

end Go.Proofs.Ytcmidcpogcejfaa.U
