/- The words of a text, as a loop over its bytes finds them. The document's Words and Collapse answer by functions of lists of bytes. The document's Size, Text of layer 15. The document's Reset of layer 15. The document's Value of layer 15. The document's Value of layer 18. The walks of the statements ValidBars and ValidValues. -/
import Derived.Test.YtlppocdhfeejkaaGreatDoorJvv22
import Derived.Test.YtlppocdhfeejkaaGreatDoorJvv43

namespace Go.Proofs.YtlppocdhfeejkaaGreatDoor
open Go.RowKit
def sub (s : ByteArray) (j k : Nat) : List UInt8 := (s.data.toList.drop j).take (k - j)
theorem sub_txt (s : ByteArray) (j k : Nat) : s.extract j k = txt (sub s j k) := by
  unfold txt sub
  have : (s.extract j k).data = ((s.data.toList.drop j).take (k - j)).toArray := by
    apply Array.ext'; simp
  cases h : s.extract j k with
  | mk d => rw [h] at this; exact congrArg ByteArray.mk this
theorem drop_at (s : ByteArray) (k : Nat) (h : k < s.size) : s.data.toList.drop k = s[k] :: s.data.toList.drop (k + 1) := by
  rw [List.drop_eq_getElem_cons (by simpa using h)]; rfl
theorem sub_one (s : ByteArray) (k : Nat) (h : k < s.size) : sub s k (k + 1) = [s[k]] := by
  unfold sub; rw [drop_at s k h, Nat.add_sub_cancel_left]; rfl
theorem sub_succ (s : ByteArray) (j k : Nat) (hj : j ≤ k) (h : k < s.size) : sub s j (k + 1) = sub s j k ++ [s[k]] := by
  unfold sub
  have e : k + 1 - j = (k - j) + 1 := by omega
  have hl : k - j < (s.data.toList.drop j).length := by simp; omega
  rw [e, List.take_succ_eq_append_getElem hl]
  congr 2
  rw [List.getElem_drop]
  have e2 : j + (k - j) = k := by omega
  simp only [e2]; rfl
theorem sub_ne (s : ByteArray) (j k : Nat) (hj : j < k) (h : k ≤ s.size) : sub s j k ≠ [] := by
  intro e; have := congrArg List.length e; simp [sub] at this; omega
/-- What the loop has behind k bytes: the words that are done; where the one begins that is being read (-1: none is). -/
def WS (s : ByteArray) (k : Nat) (f : Int) (done : List (List UInt8)) : Prop :=
  done.length ≤ k ∧ ((f = -1 ∧ k ≤ s.size ∧ done ++ wordsG [] (s.data.toList.drop k) = wordsG [] s.data.toList) ∨
    (∃ j : Nat, f = j ∧ j < k ∧ k ≤ s.size ∧ done ++ wordsG (sub s j k) (s.data.toList.drop k) = wordsG [] s.data.toList) ∨ (f = -1 ∧ k = s.size + 1 ∧ done = wordsG [] s.data.toList))
theorem ws_zero (s : ByteArray) : WS s 0 (-1) [] := ⟨by simp, .inl ⟨rfl, Nat.zero_le _, by simp⟩⟩
theorem ws_len {s : ByteArray} {k : Nat} {f : Int} {done : List (List UInt8)} (h : WS s k f done) : done.length ≤ k := h.1
theorem ws_none {s : ByteArray} {k : Nat} {done : List (List UInt8)} (h : WS s k (-1) done) (hk : k ≤ s.size) : done ++ wordsG [] (s.data.toList.drop k) = wordsG [] s.data.toList := by
  rcases h.2 with ⟨_, _, h⟩ | ⟨j, h, _⟩ | ⟨_, h, _⟩
  · exact h
  · omega
  · omega
theorem ws_in {s : ByteArray} {j k : Nat} {done : List (List UInt8)} (h : WS s k (j : Int) done) : j < k ∧ k ≤ s.size ∧ done ++ wordsG (sub s j k) (s.data.toList.drop k) = wordsG [] s.data.toList := by
  rcases h.2 with ⟨h, _⟩ | ⟨i, h, r⟩ | ⟨h, _⟩
  · omega
  · obtain rfl : j = i := by omega
    exact r
  · omega
theorem ws_cases {s : ByteArray} {k : Nat} {f : Int} {done : List (List UInt8)} (h : WS s k f done) : f = -1 ∨ ∃ j : Nat, f = j := by
  rcases h.2 with ⟨h, _⟩ | ⟨j, h, _⟩ | ⟨h, _⟩
  · exact .inl h
  · exact .inr ⟨j, h⟩
  · exact .inl h
theorem ws_end {s : ByteArray} {k : Nat} {f : Int} {done : List (List UInt8)} (h : WS s k f done) (hk : ¬ k ≤ s.size) : done = wordsG [] s.data.toList := by
  rcases h.2 with ⟨_, h, _⟩ | ⟨j, _, _, h, _⟩ | ⟨_, _, h⟩
  · exact absurd h hk
  · exact absurd h hk
  · exact h
theorem wordsG_no {cur r : List UInt8} {c : UInt8} (h : isBl c = false) : wordsG cur (c :: r) = wordsG (cur ++ [c]) r := by
  show (if isBl c then _ else _) = _; rw [if_neg (by rw [h]; decide)]
theorem wordsG_bl {cur r : List UInt8} {c : UInt8} (h : isBl c = true) (hc : cur ≠ []) : wordsG cur (c :: r) = cur :: wordsG [] r := by
  show (if isBl c then _ else _) = _; rw [if_pos h, if_neg hc]
theorem wordsG_bl0 {r : List UInt8} {c : UInt8} (h : isBl c = true) : wordsG [] (c :: r) = wordsG [] r := by
  show (if isBl c then _ else _) = _; rw [if_pos h, if_pos rfl]
theorem ws_begin {s : ByteArray} {k : Nat} {done : List (List UInt8)} (h : WS s k (-1) done) (hk : k < s.size) (hb : isBl s[k] = false) : WS s (k + 1) (k : Int) done := by
  have e := ws_none h (by omega)
  rw [drop_at s k hk, wordsG_no hb] at e
  exact ⟨by have := h.1; omega, .inr (.inl ⟨k, rfl, by omega, by omega, by rw [sub_one s k hk]; exact e⟩)⟩
theorem ws_more {s : ByteArray} {j k : Nat} {done : List (List UInt8)} (h : WS s k (j : Int) done) (hk : k < s.size) (hb : isBl s[k] = false) : WS s (k + 1) (j : Int) done := by
  obtain ⟨h1, h2, e⟩ := ws_in h
  rw [drop_at s k hk, wordsG_no hb] at e
  exact ⟨by have := h.1; omega, .inr (.inl ⟨j, rfl, by omega, by omega, by rw [sub_succ s j k (by omega) hk]; exact e⟩)⟩
theorem ws_skip {s : ByteArray} {k : Nat} {done : List (List UInt8)} (h : WS s k (-1) done) (hk : k < s.size) (hb : isBl s[k] = true) : WS s (k + 1) (-1) done := by
  have e := ws_none h (by omega)
  rw [drop_at s k hk, wordsG_bl0 hb] at e
  exact ⟨by have := h.1; omega, .inl ⟨rfl, by omega, e⟩⟩
theorem ws_push {s : ByteArray} {j k : Nat} {done : List (List UInt8)} (h : WS s k (j : Int) done) (hk : k < s.size) (hb : isBl s[k] = true) : WS s (k + 1) (-1) (done ++ [sub s j k]) := by
  obtain ⟨h1, h2, e⟩ := ws_in h
  rw [drop_at s k hk, wordsG_bl hb (sub_ne s j k h1 h2)] at e
  exact ⟨by have := h.1; simp; omega, .inl ⟨rfl, by omega, by rw [List.append_assoc]; exact e⟩⟩
theorem ws_last {s : ByteArray} {done : List (List UInt8)} (h : WS s s.size (-1) done) : WS s (s.size + 1) (-1) done := by
  have e := ws_none h (Nat.le_refl _)
  rw [List.drop_eq_nil_of_le (by simp)] at e
  exact ⟨by have := h.1; omega, .inr (.inr ⟨rfl, rfl, by simpa [wordsG] using e⟩)⟩
theorem ws_final {s : ByteArray} {j : Nat} {done : List (List UInt8)} (h : WS s s.size (j : Int) done) : WS s (s.size + 1) (-1) (done ++ [sub s j s.size]) := by
  obtain ⟨h1, h2, e⟩ := ws_in h
  rw [List.drop_eq_nil_of_le (by simp)] at e
  have hne := sub_ne s j s.size h1 h2
  refine ⟨by have := h.1; simp; omega, .inr (.inr ⟨rfl, rfl, ?_⟩)⟩
  rw [← e]; show _ = done ++ (if sub s j s.size = [] then [] else [sub s j s.size]); rw [if_neg hne]
theorem wordsG_count : ∀ (l cur : List UInt8), (wordsG cur l).length ≤ l.length + 1
  | [], cur => by unfold wordsG; split <;> simp
  | c :: r, cur => by
    cases hb : isBl c with
    | true =>
      have := wordsG_count r []
      by_cases hc : cur = []
      · subst hc; rw [wordsG_bl0 hb]; simp only [List.length_cons]; omega
      · rw [wordsG_bl hb hc]; simp only [List.length_cons]; omega
    | false => rw [wordsG_no hb]; have := wordsG_count r (cur ++ [c]); simp only [List.length_cons]; omega
/-- Joined by k words. -/
theorem joinW_take (ws : List (List UInt8)) (k : Nat) (h : k < ws.length) : joinW (ws.take (k + 1)) = joinW (ws.take k) ++ (if k = 0 then [] else [32]) ++ ws[k] := by
  rw [List.take_succ_eq_append_getElem h]
  by_cases e : k = 0
  · subst e; simp [joinW, sepJ]
  · rw [if_neg e, joinW_snoc _ _ (by intro x; have := congrArg List.length x; rw [List.length_take] at this; simp at this; rcases this with h' | h'; exact e h'; subst h'; simp at h)]
theorem sepJ_len (ws : List (List UInt8)) : (sepJ ws).length = (ws.map (fun x => x.length + 1)).sum := by
  induction ws with
  | nil => rfl
  | cons a t ih => show (32 :: a ++ sepJ t).length = _; simp [ih]; omega
theorem sum_take_le (ws : List Nat) (k : Nat) : (ws.take k).sum ≤ ws.sum := by
  induction ws generalizing k with
  | nil => simp
  | cons a t ih => cases k with
    | zero => simp
    | succ k => simp; exact ih k
theorem joinW_len (ws : List (List UInt8)) : (joinW ws).length ≤ (sepJ ws).length := by
  cases ws with
  | nil => simp [joinW]
  | cons a t => show (a ++ sepJ t).length ≤ (32 :: a ++ sepJ t).length; simp
theorem sepJ_words_le (l : List UInt8) : (sepJ (wordsG [] l)).length ≤ 2 * l.length := by
  rw [(words_col l).2.2]; exact colF_le l 2
theorem joinW_take_le (l : List UInt8) (k : Nat) : (joinW ((wordsG [] l).take k)).length ≤ 2 * l.length := by
  have h1 := joinW_len ((wordsG [] l).take k)
  rw [sepJ_len, List.map_take] at h1
  have h2 := sum_take_le ((wordsG [] l).map fun x => x.length + 1) k
  rw [← sepJ_len] at h2
  have := sepJ_words_le l
  omega
theorem word_le (l : List UInt8) (k : Nat) (h : k < (wordsG [] l).length) : (wordsG [] l)[k].length ≤ 2 * l.length := by
  have h1 := joinW_take_le l (k + 1)
  rw [joinW_take _ _ h] at h1
  simp at h1; omega
end Go.Proofs.YtlppocdhfeejkaaGreatDoor

namespace Go.Proofs.YtlppocdhfeejkaaGreatDoor
open Go.RowKit
set_option maxRecDepth 100000
theorem textTypes : TextTypes Tryz.prog 79 9 := ⟨Tryz.underlying79, Tryz.underlying9, by kernel_rfl⟩
set_option maxHeartbeats 2000000 in
set_option maxRecDepth 100000 in
theorem words_any (s : ByteArray) (w : World) (hs : s.size ≤ 274877906944) :
    Calls Tryz.prog 109 #[.string s] w fun e w' => ∃ v, e = .returned v ∧ OwnsT 9 w.heap.size w' v (wordsG [] s.data.toList) ∧ Below w.heap.size w w' := by
  go_enter Tryz.func109, Tryz.ntmps109
  go_wp2_with fail
  go_loopw [3, 4, 5] (fun v f i wr => ∃ (k : Nat) (q : Int) (done : List (List UInt8)), k ≤ s.size + 1 ∧ i = .int .i64 k ∧ f = .int .i64 q ∧ WS s k q done ∧ OwnsT 9 w.heap.size wr v done ∧ Below w.heap.size w wr) (fun _ _ i _ => s.size + 1 - (intOf i).toNat)
  case atStart => exact ⟨0, -1, [], Nat.zero_le _, rfl, rfl, ws_zero s, OwnsT.nil _ _ _, Below.refl _ _⟩
  case round =>
    obtain ⟨k, q, done, hk, rfl, rfl, hw, hown, hb⟩ := hrel
    have hlen := ws_len hw
    have hsz := hb.size
    by_cases hle : k ≤ s.size
    · by_cases hlt : k < s.size
      · cases hbl : isBl s[k] with
        | false =>
          rcases ws_cases hw with rfl | ⟨j, rfl⟩
          · have HW := hide (ws_begin hw hlt hbl)
            clear hw
            go_wp2_with fail
            refine (refBlank_any s[k] _).mono ?_
            rintro e w1 ⟨rfl, rfl⟩
            go_wp2_with fail
            go_roundw
            case rel => exact ⟨k + 1, k, done, by omega, by go_num, rfl, HW.out, hown, hb⟩
            case measure => simp [intOf]; omega
          · have HW := hide (ws_more hw hlt hbl)
            have hj := (ws_in hw).1
            clear hw
            go_wp2_with fail
            refine (refBlank_any s[k] _).mono ?_
            rintro e w1 ⟨rfl, rfl⟩
            go_wp2_with fail
            go_roundw
            case rel => exact ⟨k + 1, j, done, by omega, by go_num, rfl, HW.out, hown, hb⟩
            case measure => simp [intOf]; omega
        | true =>
          rcases ws_cases hw with rfl | ⟨j, rfl⟩
          · have HW := hide (ws_skip hw hlt hbl)
            clear hw
            go_wp2_with fail
            refine (refBlank_any s[k] _).mono ?_
            rintro e w1 ⟨rfl, rfl⟩
            go_wp2_with fail
            go_roundw
            case rel => exact ⟨k + 1, -1, done, by omega, by go_num, rfl, HW.out, hown, hb⟩
            case measure => simp [intOf]; omega
          · have HW := hide (ws_push hw hlt hbl)
            have hj := (ws_in hw).1
            have HX := hide (sub_txt s j k)
            clear hw
            go_wp2_with fail
            refine (refBlank_any s[k] _).mono ?_
            rintro e w1 ⟨rfl, rfl⟩
            go_wp2_with (at_builtin; refine wpList_append_item textTypes _ _ rfl _ _ rfl w.heap.size _ _ (sub s j k) HX.out rfl hown rfl (by omega) (by omega) ?_; intro v' w' hown' hb')
            go_roundw
            case rel => exact ⟨k + 1, -1, done ++ [sub s j k], by omega, by go_num, rfl, HW.out, hown', hb.trans hb'⟩
            case measure => simp [intOf]; omega
      · obtain rfl : k = s.size := by omega
        have hbl : True := trivial
        rcases ws_cases hw with rfl | ⟨j, rfl⟩
        · have HW := hide (ws_last hw)
          clear hw
          go_wp2_with fail
          go_roundw
          case rel => exact ⟨s.size + 1, -1, done, by omega, by go_num, rfl, HW.out, hown, hb⟩
          case measure => simp [intOf]
        · have HW := hide (ws_final hw)
          have hj := (ws_in hw).1
          have HX := hide (sub_txt s j s.size)
          clear hw
          go_wp2_with (at_builtin; refine wpList_append_item textTypes wr _ rfl _ _ rfl w.heap.size _ _ (sub s j s.size) HX.out rfl hown rfl (by omega) (by omega) ?_; intro v' w' hown' hb')
          go_roundw
          case rel => exact ⟨s.size + 1, -1, done ++ [sub s j s.size], by omega, by go_num, rfl, HW.out, hown', hb.trans hb'⟩
          case measure => simp [intOf]
    · have HE := hide (ws_end hw hle)
      have hi : ¬ (k : Int) ≤ (s.size : Int) := by omega
      go_wp2_with fail
      go_ret
      exact ⟨_, rfl, by rw [← HE.out]; exact hown, hb⟩
set_option maxHeartbeats 2000000 in
set_option maxRecDepth 100000 in
theorem refCollapse_any (s : ByteArray) (w : World) (hs : s.size ≤ 274877906944) :
    Calls Tryz.prog 67 #[.string s] w fun e w' => e = .returned (.string (collapseS s)) ∧ Below w.heap.size w w' := by
  have hW := fun w => words_any s w hs
  have hcnt := wordsG_count s.data.toList []
  have hjl := joinW_take_le s.data.toList
  have hwl := word_le s.data.toList
  have hj : joinW (wordsG [] s.data.toList) = collapseL s.data.toList := join_words _
  unfold collapseS
  rw [← hj]
  clear hj
  have hsl : s.data.toList.length = s.size := by simp
  rw [hsl] at hcnt hjl hwl
  generalize wordsG [] s.data.toList = ws at *
  have HW := hide hW
  have HJ := hide hjl
  have HL := hide hwl
  clear hW hjl hwl hsl
  go_enter Tryz.func67, Tryz.ntmps67
  go_wp2_with fail
  refine (HW.out _).mono ?_
  rintro e w1 ⟨v, rfl, hv, b1⟩
  have hform : (v = .slice none 0 0 ∧ ws = []) ∨ ∃ g cap, v = .slice (some ⟨g, 0, none⟩) ws.length cap ∧ g < w1.heap.size ∧ ∀ i (h : i < ws.length), w1.cell? ⟨g, i, none⟩ = some (.string (txt ws[i])) := by
    rcases hv.2 with ⟨h1, h2⟩ | ⟨g, cap, cur, h1, h2, h3, h4⟩
    · exact .inl ⟨h1, List.eq_nil_of_length_eq_zero h2⟩
    · refine .inr ⟨g, cap, h1, ?_, fun i h => ?_⟩
      · rcases Nat.lt_or_ge g w1.heap.size with h' | h'
        · exact h'
        · simp [Array.getElem?_eq_none h'] at h3
      · subst h1
        rw [World.ownsRow.cellAt hv i (by omega)]
        simp [cellT, h]
  clear hv
  rcases hform with ⟨rfl, rfl⟩ | ⟨g, cap, rfl, hg, hcells⟩
  · go_wp2_with fail
    go_loop [4, 5] (fun o i => o = .slice none 0 0 ∧ i = .int .i64 0) (fun _ _ => 0)
    case atStart => exact ⟨rfl, rfl⟩
    case round =>
      obtain ⟨rfl, rfl⟩ := hrel
      have hend := (OwnsB.nil 5 w1.heap.size w1).text byteTypes
      go_wp2_with fail
      go_ret
      exact ⟨rfl, b1⟩
  · have HC := hide hcells
    clear hcells
    go_wp2_with fail
    go_loopw [4, 5] (fun o i wr => ∃ k : Nat, k ≤ ws.length ∧ i = .int .i64 k ∧ OwnsB 5 w1.heap.size wr o (joinW (ws.take k)) ∧ Below w1.heap.size w1 wr) (fun _ i _ => ws.length - (intOf i).toNat)
    case atStart => exact ⟨0, Nat.zero_le _, rfl, OwnsB.nil _ _ _, Below.refl _ _⟩
    case round =>
      obtain ⟨k, hk, rfl, hown, hb⟩ := hrel
      have hsz := hb.size
      have hl1 := HJ.out k
      by_cases hlt : k < ws.length
      · have hl2 := HL.out k hlt
        have HT := hide (joinW_take ws k hlt)
        have hc : wr.cell? ⟨g, k, none⟩ = some (.string (txt ws[k])) := (hb.cell (p := ⟨g, k, none⟩) hg).trans (HC.out k hlt)
        have hts : (txt ws[k]).size ≤ 2 * s.size := by rw [txt_size]; exact hl2
        have HD : Hid ((txt ws[k]).data.toList = ws[k]) := txt_data _
        generalize txt ws[k] = tk at *
        by_cases h0 : k = 0
        · subst h0
          rw [if_pos rfl, List.append_nil] at HT
          go_wp2_with (at_builtin; refine wpList_append_text byteTypes wr rfl _ _ rfl w1.heap.size _ _ tk rfl hown rfl (by omega) (by omega) ?_; intro v2 w2 hown2 hb2)
          go_roundw
          case rel => exact ⟨0 + 1, by omega, by go_num, by rw [HT.out, ← HD.out]; exact hown2, hb.trans hb2⟩
          case measure => simp [intOf]; omega
        · rw [if_neg h0] at HT
          have h0i : (0 : Int) < (k : Int) := by omega
          have tok : True := trivial
          go_wp2_with (first | (at_builtin; have _t := tok; refine wpList_append_byte byteTypes wr _ rfl _ _ rfl w1.heap.size _ _ 32 rfl rfl hown rfl (by omega) (by omega) ?_; intro v1 w3 hown1 hb3; clear tok; have hc3 : w3.cell? ⟨g, k, none⟩ = some (.string tk) := (hb3.cell (p := ⟨g, k, none⟩) hg).trans hc; have hsz3 := hb3.size; have hl3 : (joinW (ws.take k) ++ [32]).length ≤ 2 * s.size + 1 := by (rw [List.length_append]; simp; exact hl1)) | (at_builtin; refine wpList_append_text byteTypes w3 rfl _ _ rfl w1.heap.size _ _ tk rfl hown1 rfl (by omega) (by omega) ?_; intro v2 w4 hown2 hb4))
          go_roundw
          case rel => exact ⟨k + 1, by omega, by go_num, by rw [HT.out, ← HD.out]; exact hown2, hb.trans (hb3.trans hb4)⟩
          case measure => simp [intOf]; omega
      · obtain rfl : k = ws.length := by omega
        rw [List.take_length] at hown
        have hend := hown.text byteTypes
        go_wp2_with fail
        go_ret
        exact ⟨rfl, chain b1 hb⟩
end Go.Proofs.YtlppocdhfeejkaaGreatDoor

namespace Go.Proofs.YtlppocdhfeejkaaGreatDoor
open Go.RowKit
set_option maxRecDepth 100000
set_option maxHeartbeats 4000000 in
theorem refOText_any (v : Value) (l : List Nd) (id : Int) (w : World) (hv : NodesV w v l) (hz : DocSz l) :
    Calls Tryz.prog 36 #[v, .int .i64 id] w fun e w' => e = .returned (.string (textO l id)) ∧ Below w.heap.size w w' := by
  have HI := hide (refIs_any v l id 32 w hv hz)
  cases h : isK l id 32 with
  | false =>
    have E : Hid (textO l id = ⟨#[]⟩) := by show _ = _; unfold textO; rw [h]; rfl
    rw [h] at HI
    obtain ⟨p, c, rfl, _⟩ := hv
    clear h hz
    go_enter Tryz.func36, Tryz.ntmps36
    go_wp2_with fail
    refine HI.out.mono ?_
    rintro e w1 ⟨rfl, b1⟩
    go_wp2_with fail
    go_ret
    exact ⟨ret_str E.out.symm, b1⟩
  | true =>
    have hh : hasN l id = true := by unfold isK at h; rw [Bool.and_eq_true] at h; exact h.1
    obtain ⟨m, hI⟩ := Is.of hh
    have hI' := hide hI
    obtain ⟨rfl, h0⟩ := (⟨hI.eq, hI.lt⟩ : id = (m : Int) ∧ m < l.length)
    have hR := hI.right
    have sz := right_attrsO hR h0
    have hlen := hR.len.2
    have EQ : Hid (textO l (m : Int) = if hasA l[m] oVal = true then fndS l[m].attrs oVal else collapseS (textP l (m : Int))) := by
      show _ = _
      unfold textO
      rw [if_pos h, Int.toNat_natCast, nd_at h0]
    have ts := textP_small hR h0
    rw [nd_at h0] at sz
    rw [h] at HI
    have hv' := hide hv
    have HT := hide (fun W (hb : Below w.heap.size w W) => refText_any v l (m : Int) m W (hv'.out.below hb) hI'.out)
    have HC := hide (fun W => refCollapse_any (textP l (m : Int)) W (by omega))
    obtain ⟨p, c, rfl, hv⟩ := hv
    rcases hv with hv | ⟨b, o, rfl, hv⟩
    · rw [hv] at h0; simp at h0
    obtain ⟨va, vk, N0⟩ := hv m h0
    have N1 := hide N0
    have HA := hide (fun W (hb : Below w.heap.size w W) => refAttrS_any va l[m].attrs oVal W (N1.out.at_.below hb) (by omega))
    have EH : Hid ((findA l[m].attrs oVal).isSome = hasA l[m] oVal) := rfl
    rw [EH.out] at HA
    rw [show oVal = ⟨#[118, 97, 108, 117, 101]⟩ from rfl] at HA EQ
    have i0 : (0 : Int) ≤ (m : Int) := by omega
    have i1 : (m : Int) < (l.length : Int) := by omega
    clear h hh hI N0 sz hv hz hv' hI' hR EH ts
    generalize fndS l[m].attrs ⟨#[118, 97, 108, 117, 101]⟩ = fs at *
    generalize textP l (m : Int) = tp at *
    cases g : hasA l[m] ⟨#[118, 97, 108, 117, 101]⟩ with
    | true =>
      rw [g, if_pos rfl] at EQ
      rw [g] at HA
      clear g HT HC
      go_enter Tryz.func36, Tryz.ntmps36
      go_wp2_with fail
      refine HI.out.mono ?_
      rintro e w1 ⟨rfl, b1⟩
      have a0 := cell_below N1.out.name b1
      have a1 := cell_below N1.out.text b1
      have a2 := cell_below N1.out.attrs b1
      have a3 := cell_below N1.out.parent b1
      have a4 := cell_below N1.out.kids b1
      go_wp2_with fail
      refine (HA.out _ b1).mono ?_
      rintro e u ⟨rfl, hu⟩
      obtain rfl : w1 = u := hu.symm
      go_wp2_with fail
      go_ret
      exact ⟨ret_str EQ.out.symm, b1⟩
    | false =>
      rw [g, if_neg (by decide)] at EQ
      rw [g] at HA
      clear g
      go_enter Tryz.func36, Tryz.ntmps36
      go_wp2_with fail
      refine HI.out.mono ?_
      rintro e w1 ⟨rfl, b1⟩
      have a0 := cell_below N1.out.name b1
      have a1 := cell_below N1.out.text b1
      have a2 := cell_below N1.out.attrs b1
      have a3 := cell_below N1.out.parent b1
      have a4 := cell_below N1.out.kids b1
      go_wp2_with fail
      refine (HA.out _ b1).mono ?_
      rintro e u ⟨rfl, hu⟩
      obtain rfl : w1 = u := hu.symm
      go_wp2_with fail
      refine (HT.out _ b1).mono ?_
      rintro e u ⟨rfl, hu⟩
      obtain rfl : w1 = u := hu.symm
      go_wp2_with fail
      refine (HC.out _).mono ?_
      rintro e w3 ⟨rfl, b3⟩
      go_wp2_with fail
      go_ret
      exact ⟨ret_str EQ.out.symm, chain b1 b3⟩
end Go.Proofs.YtlppocdhfeejkaaGreatDoor

namespace Go.Proofs.YtlppocdhfeejkaaGreatDoor
open Go.RowKit
set_option maxRecDepth 100000
theorem list_few {l : List Nd} (h : Right l) (sel : Int) : (listP l sel).length ≤ 400 := by
  unfold listP
  split
  · rename_i q
    have hh : hasN l sel = true := by unfold isK at q; rw [Bool.and_eq_true] at q; exact q.1
    obtain ⟨m, hI⟩ := Is.of hh
    rw [hI.eq]
    exact Nat.le_trans (List.length_filter_le ..) (order_few h hI.lt)
  · exact Nat.zero_le _
end Go.Proofs.YtlppocdhfeejkaaGreatDoor

namespace Go.Proofs.YtlppocdhfeejkaaGreatDoor
open Go.RowKit
set_option maxRecDepth 100000
def firstT (l : List Nd) (C : List Ct) (xs : List Int) : ByteArray := match xs.find? (fun i => (st C i).sel) with
  | none => ⟨#[]⟩
  | some i => textO l i
theorem firstT_yes {l : List Nd} {C : List Ct} {all : List Int} {k : Nat} (h : k < all.length) (hs : (st C all[k]).sel = true) : firstT l C (all.drop k) = textO l all[k] := by
  unfold firstT
  rw [List.drop_eq_getElem_cons h, List.find?_cons_of_pos (p := fun i => (st C i).sel) hs]
theorem firstT_no {l : List Nd} {C : List Ct} {all : List Int} {k : Nat} (h : k < all.length) (hs : (st C all[k]).sel = false) : firstT l C (all.drop k) = firstT l C (all.drop (k + 1)) := by
  unfold firstT
  rw [List.drop_eq_getElem_cons h, List.find?_cons_of_neg (p := fun i => (st C i).sel) (by rw [hs]; decide)]
set_option maxHeartbeats 8000000 in
theorem refOValue_any (nv cv : Value) (l : List Nd) (C : List Ct) (sel : Int) (w : World) (hD : DocV w nv cv l C) (hz : DocSz l) (hC : CsOK C) :
    Calls Tryz.prog 20 #[.agg #[nv, cv], .int .i64 sel] w fun e w' => e = .returned (.string (valueO l C sel)) ∧ Below w.heap.size w w' := by
  obtain ⟨F, hF⟩ := hD.cts
  have CF := hide hF
  have E0 := hide (OEnv.new w nv cv)
  have HR := hide (fun W (hb : Below w.heap.size w W) => refORight_any nv cv l C W (hD.below hb) hz hC)
  have HL := hide (fun W (hb : Below w.heap.size w W) => refOList_any nv l sel W (hD.nds.below hb) hz)
  have HTx := hide (fun i W (hb : Below w.heap.size w W) => refOText_any nv l i W (hD.nds.below hb) hz)
  obtain ⟨p, c, ep⟩ := nds_form hD.nds
  obtain ⟨p2, c2, ep2⟩ := cts_form hD.cts
  have hl := hz.len
  have hl2 := hC.len
  subst ep ep2
  clear hD hz hC hF
  cases h : rightD l C with
  | false =>
    have E : Hid (valueO l C sel = ⟨#[]⟩) := if_neg (by rw [h]; decide)
    rw [h] at HR
    clear h HL HTx CF
    go_enter Tryz.func20, Tryz.ntmps20
    go_wp2_with fail
    refine (HR.out _ E0.out.bel).mono ?_
    rintro e w1 ⟨rfl, b1⟩
    have E1 := hide (E0.out.step b1)
    clear b1 E0
    go_wp2_with fail
    go_ret
    exact ⟨ret_str E.out.symm, E1.out.bel⟩
  | true =>
    have HRt := hide (rightD_is h).1
    have HLC := hide (rightD_is h).2
    have hlen := HRt.out.len.2
    have few := list_few HRt.out sel
    have EV : Hid (valueO l C sel = firstT l C (listP l sel)) := if_pos h
    rw [h] at HR
    obtain ⟨_, rng⟩ := list_in (l := l) (sel := sel)
    have RG : Hid (∀ i ∈ listP l sel, 0 ≤ i ∧ i < (C.length : Int)) := fun i hi => by have := rng i hi; have := HLC.out; omega
    clear h rng
    generalize listP l sel = all at *
    generalize valueO l C sel = V at *
    go_enter Tryz.func20, Tryz.ntmps20
    go_wp2_with fail
    refine (HR.out _ E0.out.bel).mono ?_
    rintro e w1 ⟨rfl, b1⟩
    have E1 := hide (E0.out.step b1)
    clear b1 E0
    have c0 := E1.out.doc.cell 0 rfl
    go_wp2_with fail
    refine (HL.out _ E1.out.bel).mono ?_
    rintro e w5 ⟨av, rfl, k5, b5⟩
    have E5 := hide (E1.out.listed b5 k5)
    obtain ⟨pa, ca, rfl, hca⟩ := kids_form k5
    clear b5 c0 HR HL k5 E1
    have EV0 : Hid (V = firstT l C (all.drop 0)) := by show _ = _; rw [List.drop_zero]; exact EV.out
    clear EV
    go_wp2_with fail
    go_loopw [6] (fun iv wr => ∃ k : Nat, k ≤ all.length ∧ iv = .int .i64 k ∧ Hid (V = firstT l C (all.drop k)) ∧ Hid (OEnv w wr (.slice p l.length c) (.slice p2 C.length c2) (.slice none 0 0) [] [] (.slice pa all.length ca) all)) (fun iv _ => all.length - (intOf iv).toNat)
    case atStart => exact ⟨0, Nat.zero_le _, rfl, EV0, E5⟩
    case round =>
      rename World => wr
      obtain ⟨k, hk, rfl, EV, ER⟩ := hrel
      clear EV0 E5
      by_cases g : k < all.length
      · have k1 : (k : Int) < (all.length : Int) := by omega
        have rx := RG.out all[k] (List.getElem_mem g)
        obtain ⟨q, eq, hq⟩ := nat_of (z := all[k]) (n := C.length) (by omega) rx.2
        obtain ⟨ga, rfl, x0, _⟩ := own_num ER.out g
        have c0 := ER.out.doc.cell 0 rfl
        have c1 := ER.out.doc.cell 1 rfl
        have FY := hide (firstT_yes (l := l) (C := C) g)
        have FN := hide (firstT_no (l := l) (C := C) g)
        rw [eq] at x0
        rw [eq, st_nat hq] at FY FN
        obtain ⟨_, p', k', e', hcs⟩ := CF.out
        cases e'
        have hcs' : ∃ b o, p2 = some ⟨b, o, none⟩ ∧ ∀ i (h : i < C.length), CtAt w b (o + i * 10) C[i] (fvAt F i) := by
          rcases hcs with t | t
          · rw [t] at hq; simp at hq
          · exact t
        obtain ⟨bc, oc, rfl, hct⟩ := hcs'
        have y0 := ((hct q hq).below ER.out.bel) 6 _ rfl
        have q0 : (0 : Int) ≤ (q : Int) := by omega
        have q1 : (q : Int) < (C.length : Int) := by omega
        have HTq := hide (fun W hb => HTx.out (q : Int) W hb)
        clear rx eq RG hcs hct CF HRt HLC HTx
        cases hs : C[q].sel with
        | true =>
          have EE := hide (EV.out.trans (FY.out hs))
          replace y0 : wr.cell? ⟨bc, oc + q * 10 + 6, none⟩ = some (.bool true) := by rw [← hs]; exact y0
          clear FY FN hs EV
          generalize textO l (q : Int) = tx at *
          go_wp2_with fail
          go_quiet (fail)
          go_wp2_with fail
          generalize hwq : wr.drewN nq = wq
          have ER2 : Hid (OEnv w wq (.slice p l.length c) (.slice (some ⟨bc, oc, none⟩) C.length c2) (.slice none 0 0) [] [] (.slice (some ⟨ga, 0, none⟩) all.length ca) all) := by rw [← hwq]; exact ER.out.drew nq
          have d0 := ER2.out.doc.cell 0 rfl
          have x2 : wq.cell? ⟨ga, k, none⟩ = some (.int .i64 (q : Int)) := by rw [← hwq]; exact x0
          clear hwq ER c0 c1 x0 y0
          go_region_held3 (fun w' => w'.cell? ⟨w.heap.size, 0, none⟩ = some (.slice p l.length c) ∧ w'.cell? ⟨ga, k, none⟩ = some (.int .i64 (q : Int))) (first | go_keep | exact ⟨cell_below d0 UR.out, cell_below x2 UR.out⟩)
            (first | (go_at_call 36; refine (HTq.out _ (belR ER2.out.bel 1)).mono ?_; rintro e wv ⟨rfl, bv⟩; have UR : Hid (Below wq.heap.size wq wv) := undrewO bv))
          go_wp2_with fail
          go_ret
          exact ⟨ret_str EE.out.symm, chain ER2.out.bel UR.out⟩
        | false =>
          have EN := hide (EV.out.trans (FN.out hs))
          replace y0 : wr.cell? ⟨bc, oc + q * 10 + 6, none⟩ = some (.bool false) := by rw [← hs]; exact y0
          clear FY FN hs EV HTq
          go_wp2_with fail
          go_quiet (fail)
          go_wp2_with fail
          go_roundw
          case rel => exact ⟨k + 1, by omega, by go_num, EN, ER.out.drew _⟩
          case measure => simp [intOf]; omega
      · obtain rfl : k = all.length := by omega
        have EE : Hid (V = ⟨#[]⟩) := by show _ = _; rw [EV.out, List.drop_length]; rfl
        clear RG HTx CF EV
        go_wp2_with fail
        go_ret
        exact ⟨ret_str EE.out.symm, ER.out.bel⟩
end Go.Proofs.YtlppocdhfeejkaaGreatDoor

namespace Go.Proofs.YtlppocdhfeejkaaGreatDoor
open Go.RowKit
set_option maxRecDepth 100000
set_option maxHeartbeats 8000000 in
theorem refVValue_any (nv cv : Value) (l : List Nd) (C : List Ct) (m : Nat) (w : World) (hD : DocV w nv cv l C) (hz : DocSz l) (hC : CsOK C) (hm : m < l.length) (hc : m < C.length) :
    Calls Tryz.prog 9 #[.agg #[nv, cv], .int .i64 (m : Int)] w fun e w' => e = .returned (.string (valE l C (m : Int))) ∧ Below w.heap.size w w' := by
  obtain ⟨F, hF⟩ := hD.cts
  have E0 := hide (OEnv.new w nv cv)
  have HVO := hide (fun W (hb : Below w.heap.size w W) => refOValue_any nv cv l C (m : Int) W (hD.below hb) hz hC)
  have FI := hide (hF.1.at_ m hc)
  have FO := hC.fs _ (List.getElem_mem hc)
  obtain ⟨_, pc, kc, rfl, hcs⟩ := hF
  obtain ⟨bc, oc, rfl, hct⟩ : ∃ b o, pc = some ⟨b, o, none⟩ ∧ ∀ i (h : i < C.length), CtAt w b (o + i * 10) C[i] (fvAt F i) := by
    rcases hcs with t | t
    · rw [t] at hc; simp at hc
    · exact t
  have CT := hide (hct m hc)
  have hv := hD.nds
  have hl := hz.len
  have hl2 := hC.len
  obtain ⟨p, c, rfl, hvv⟩ := hv
  obtain ⟨b, o, rfl, hnn⟩ : ∃ b o, p = some ⟨b, o, none⟩ ∧ ∀ i (h : i < l.length), ∃ va vk, NodeAt w b (o + i * 5) l[i] va vk := by
    rcases hvv with t | t
    · rw [t] at hm; simp at hm
    · exact t
  obtain ⟨va, vk, N⟩ := hnn m hm
  have nz := hz.nds _ (List.getElem_mem hm)
  have HO := hide (fun W (hb : Below w.heap.size w W) => refOf_any l[m] va vk W (N.at_.below hb) nz.attrs nz.tx)
  have EK : Hid (kOf l[m].name (tyOf l[m].attrs) = kI l (m : Int)) := by show _ = _; unfold kI kN; rw [Int.toNat_natCast, nd_at hm]
  rw [EK.out] at HO
  have HV := hide (fun k W (hb : Below w.heap.size w W) => refValueV_any k C[m] (fvAt F m) va l[m].attrs W (FI.out.below hb) FO (N.at_.below hb) nz.attrs)
  have E : Hid (valE l C (m : Int) = if kI l (m : Int) = 23 then valueO l C (m : Int) else valueP (kI l (m : Int)) C[m] l[m].attrs) := by show _ = _; unfold valE; rw [Int.toNat_natCast, nd_at hm, st_nat hc]
  obtain ⟨pva, cva, rfl, hxx⟩ := N.at_
  clear hxx
  obtain ⟨pvk, cvk, rfl, hxx⟩ := N.ks
  clear hxx
  have c0 := hide N.name
  have c1 := hide N.text
  have c2 := hide N.attrs
  have c3 := hide N.parent
  have c4 := hide N.kids
  have m0 : (0 : Int) ≤ (m : Int) := by omega
  have m1 : (m : Int) < (l.length : Int) := by omega
  have HV2 := hide (fun W hb => HV.out (kI l (m : Int)) W hb)
  have m2 : (m : Int) < (C.length : Int) := by omega
  clear N hvv hnn nz hz EK hD hC hcs hct HV FO
  obtain ⟨fp, fc, efv, hxx⟩ := FI.out
  rw [efv] at CT HV2
  unfold ctV ctCells at HV2
  clear hxx FI efv
  generalize valE l C (m : Int) = RES at *
  generalize valueO l C (m : Int) = vo at *
  generalize valueP (kI l (m : Int)) C[m] l[m].attrs = vp at *
  generalize kI l (m : Int) = kk at *
  generalize l[m].name = n0 at *
  generalize l[m].text = n1 at *
  generalize l[m].parent = n3 at *
  generalize l[m].attrs.length = n5 at *
  generalize l[m].kids.length = n6 at *
  by_cases hk : kk = 23
  · rw [if_pos hk] at E
    subst hk
    clear HV2 CT
    have B0 := hide E0.out.bel
    have d0 := E0.out.doc.cell 0 rfl
    have d1 := E0.out.doc.cell 1 rfl
    have u0 := cell_below c0.out B0.out
    have u1 := cell_below c1.out B0.out
    have u2 := cell_below c2.out B0.out
    have u3 := cell_below c3.out B0.out
    have u4 := cell_below c4.out B0.out
    go_enter Tryz.func9, Tryz.ntmps9
    go_wp2_with fail
    refine (HO.out _ B0.out).mono ?_
    rintro e w1 ⟨rfl, b1⟩
    have E1 := hide (E0.out.step b1)
    clear b1 E0 B0 u0 u1 u2 u3 u4 d0 d1
    have d0 := E1.out.doc.cell 0 rfl
    have d1 := E1.out.doc.cell 1 rfl
    go_wp2_with fail
    refine (HVO.out _ E1.out.bel).mono ?_
    rintro e w2 ⟨rfl, b2⟩
    go_wp2_with fail
    go_ret
    exact ⟨ret_str E.out.symm, chain E1.out.bel b2⟩
  · rw [if_neg hk] at E
    have hkb : (kk == 23) = false := beq_eq_false_iff_ne.2 hk
    clear HVO
    have B0 := hide E0.out.bel
    have d0 := E0.out.doc.cell 0 rfl
    have d1 := E0.out.doc.cell 1 rfl
    have u0 := cell_below c0.out B0.out
    have u1 := cell_below c1.out B0.out
    have u2 := cell_below c2.out B0.out
    have u3 := cell_below c3.out B0.out
    have u4 := cell_below c4.out B0.out
    go_enter Tryz.func9, Tryz.ntmps9
    go_wp2_with fail
    refine (HO.out _ B0.out).mono ?_
    rintro e w1 ⟨rfl, b1⟩
    have E1 := hide (E0.out.step b1)
    clear b1 E0 B0 u0 u1 u2 u3 u4 d0 d1
    have d0 := E1.out.doc.cell 0 rfl
    have d1 := E1.out.doc.cell 1 rfl
    have u0 := cell_below c0.out E1.out.bel
    have u1 := cell_below c1.out E1.out.bel
    have u2 := cell_below c2.out E1.out.bel
    have u3 := cell_below c3.out E1.out.bel
    have u4 := cell_below c4.out E1.out.bel
    have y0 := CT.out.below E1.out.bel 0 _ rfl
    have y1 := CT.out.below E1.out.bel 1 _ rfl
    have y2 := CT.out.below E1.out.bel 2 _ rfl
    have y3 := CT.out.below E1.out.bel 3 _ rfl
    have y4 := CT.out.below E1.out.bel 4 _ rfl
    have y5 := CT.out.below E1.out.bel 5 _ rfl
    have y6 := CT.out.below E1.out.bel 6 _ rfl
    have y7 := CT.out.below E1.out.bel 7 _ rfl
    have y8 := CT.out.below E1.out.bel 8 _ rfl
    have y9 := CT.out.below E1.out.bel 9 _ rfl
    rw [Nat.add_zero] at y0
    go_wp2_with fail
    generalize C[m].val = z0 at *
    generalize C[m].dirty = z1 at *
    generalize C[m].typed = z2 at *
    generalize C[m].chk = z3 at *
    generalize C[m].dchk = z4 at *
    generalize C[m].mixed = z5 at *
    generalize C[m].sel = z6 at *
    generalize C[m].dsel = z7 at *
    generalize C[m].custom = z8 at *
    generalize C[m].files.length = z9 at *
    clear CT
    go_region_held3 (fun w' => w'.cell? ⟨w.heap.size, 0, none⟩ = some (.slice (some ⟨b, o, none⟩) l.length c) ∧ w'.cell? ⟨w.heap.size, 1, none⟩ = some (.slice (some ⟨bc, oc, none⟩) C.length kc) ∧ w'.cell? ⟨bc, oc + m * 10, none⟩ = some (.string z0) ∧ w'.cell? ⟨bc, oc + m * 10 + 1, none⟩ = some (.bool z1) ∧ w'.cell? ⟨bc, oc + m * 10 + 2, none⟩ = some (.bool z2) ∧ w'.cell? ⟨bc, oc + m * 10 + 3, none⟩ = some (.bool z3) ∧ w'.cell? ⟨bc, oc + m * 10 + 4, none⟩ = some (.bool z4) ∧ w'.cell? ⟨bc, oc + m * 10 + 5, none⟩ = some (.bool z5) ∧ w'.cell? ⟨bc, oc + m * 10 + 6, none⟩ = some (.bool z6) ∧ w'.cell? ⟨bc, oc + m * 10 + 7, none⟩ = some (.bool z7) ∧ w'.cell? ⟨bc, oc + m * 10 + 8, none⟩ = some (.string z8) ∧ w'.cell? ⟨bc, oc + m * 10 + 9, none⟩ = some (.slice fp z9 fc) ∧ w'.cell? ⟨b, o + m * 5 + 2, none⟩ = some (.slice pva n5 cva)) (first | go_keep | exact ⟨cell_below d0 UR.out, cell_below d1 UR.out, cell_below y0 UR.out, cell_below y1 UR.out, cell_below y2 UR.out, cell_below y3 UR.out, cell_below y4 UR.out, cell_below y5 UR.out, cell_below y6 UR.out, cell_below y7 UR.out, cell_below y8 UR.out, cell_below y9 UR.out, cell_below u2 UR.out⟩)
      (first | (go_at_call 21; refine (HV2.out _ (belR E1.out.bel 1)).mono ?_; rintro e wv ⟨rfl, bv⟩; have UR : Hid (Below w1.heap.size w1 wv) := undrewO bv))
    go_wp2_with fail
    go_ret
    exact ⟨ret_str E.out.symm, chain E1.out.bel UR.out⟩
end Go.Proofs.YtlppocdhfeejkaaGreatDoor

namespace Go.Proofs.YtlppocdhfeejkaaGreatDoor
open Go.RowKit
set_option maxRecDepth 100000
set_option maxHeartbeats 8000000 in
theorem validValues_walk (nv cv : Value) (l : List Nd) (C : List Ct) (id : Int) (w : World) (hD : DocV w nv cv l C) (hz : DocSz l) (hC : CsOK C) (hT : VaTabs w) :
    Calls Tryz.prog 3 #[.agg #[nv, cv], .int .i64 id] w fun e w' => e = .returned (.bool true) ∧ Below w.heap.size w w' := by
  have E0 := hide (OEnv.new w nv cv)
  have HW := hide (fun W (hb : Below w.heap.size w W) => vaWakes_any W (hT.below hb))
  have HC := hide (fun W (hb : Below w.heap.size w W) => vaCopied_any nv cv l C W (hD.below hb) hz hC)
  have H1 := hide (fun nu cu W (hb : Below w.heap.size w W) (hu : DocV W nu cu l C) => vaValue_any nu cu l C id W hu hz hC (hT.below hb))
  have HR := hide (fun W (hb : Below w.heap.size w W) => refORight_any nv cv l C W (hD.below hb) hz hC)
  have HH := hide (fun W (hb : Below w.heap.size w W) => refHas_any nv l id W (hD.nds.below hb) hz)
  have H2 := hide (fun m W (hb : Below w.heap.size w W) => refVValue_any nv cv l C m W (hD.below hb) hz hC)
  have EV : Hid (valN l C id = if rightD l C = true ∧ hasN l id = true then valE l C id else ⟨#[]⟩) := rfl
  have EM : Hid (rightD l C = true → hasN l id = true → ∃ m : Nat, id = (m : Int) ∧ m < l.length ∧ m < C.length) := fun a b => by
    obtain ⟨m, hI⟩ := Is.of b
    exact ⟨m, hI.eq, hI.lt, by have := (rightD_is a).2; have := hI.lt; omega⟩
  obtain ⟨pn, kn, rfl⟩ := nds_form hD.nds
  obtain ⟨pc, kc, rfl⟩ := cts_form hD.cts
  clear hD hz hC hT
  cases h : rightD l C with
  | false =>
    rw [h] at HR
    rw [h, if_neg (fun t => Bool.noConfusion t.1)] at EV
    rw [EV.out] at H1
    clear H2 HH EM EV h
    have d0 := E0.out.doc.cell 0 rfl
    have d1 := E0.out.doc.cell 1 rfl
    go_enter Tryz.func3, Tryz.ntmps3
    go_wp2_with fail
    refine (HW.out _ E0.out.bel).mono ?_
    rintro e w1 ⟨rfl, b1⟩
    have E1 := hide (E0.out.step b1)
    clear b1 E0 d0 d1
    have d0 := E1.out.doc.cell 0 rfl
    have d1 := E1.out.doc.cell 1 rfl
    go_wp2_with fail
    refine (HC.out _ E1.out.bel).mono ?_
    rintro e w2 ⟨nv2, cv2, rfl, D2, b2⟩
    have D2 := hide D2
    have E2 := hide (E1.out.step b2)
    obtain ⟨p2, k2, rfl⟩ := nds_form D2.out.nds
    obtain ⟨q2, j2, rfl⟩ := cts_form D2.out.cts
    clear b2 E1 d0 d1
    have d0 := E2.out.doc.cell 0 rfl
    have d1 := E2.out.doc.cell 1 rfl
    go_wp2_with fail
    refine (H1.out _ _ _ E2.out.bel D2.out).mono ?_
    rintro e w3 ⟨rfl, b3⟩
    have E3 := hide (E2.out.step b3)
    clear b3 E2 d0 d1 D2
    have d0 := E3.out.doc.cell 0 rfl
    have d1 := E3.out.doc.cell 1 rfl
    go_wp2_with fail
    refine (HR.out _ E3.out.bel).mono ?_
    rintro e w4 ⟨rfl, b4⟩
    have E4 := hide (E3.out.step b4)
    clear b4 E3 d0 d1
    have d0 := E4.out.doc.cell 0 rfl
    have d1 := E4.out.doc.cell 1 rfl
    go_wp2_with fail
    go_ret
    exact ⟨by simp, E4.out.bel⟩
  | true =>
    rw [h] at HR
    cases g : hasN l id with
    | false =>
      rw [g] at HH
      rw [g, if_neg (fun t => Bool.noConfusion t.2)] at EV
      rw [EV.out] at H1
      clear H2 EM EV h g
      have d0 := E0.out.doc.cell 0 rfl
      have d1 := E0.out.doc.cell 1 rfl
      go_enter Tryz.func3, Tryz.ntmps3
      go_wp2_with fail
      refine (HW.out _ E0.out.bel).mono ?_
      rintro e w1 ⟨rfl, b1⟩
      have E1 := hide (E0.out.step b1)
      clear b1 E0 d0 d1
      have d0 := E1.out.doc.cell 0 rfl
      have d1 := E1.out.doc.cell 1 rfl
      go_wp2_with fail
      refine (HC.out _ E1.out.bel).mono ?_
      rintro e w2 ⟨nv2, cv2, rfl, D2, b2⟩
      have D2 := hide D2
      have E2 := hide (E1.out.step b2)
      obtain ⟨p2, k2, rfl⟩ := nds_form D2.out.nds
      obtain ⟨q2, j2, rfl⟩ := cts_form D2.out.cts
      clear b2 E1 d0 d1
      have d0 := E2.out.doc.cell 0 rfl
      have d1 := E2.out.doc.cell 1 rfl
      go_wp2_with fail
      refine (H1.out _ _ _ E2.out.bel D2.out).mono ?_
      rintro e w3 ⟨rfl, b3⟩
      have E3 := hide (E2.out.step b3)
      clear b3 E2 d0 d1 D2
      have d0 := E3.out.doc.cell 0 rfl
      have d1 := E3.out.doc.cell 1 rfl
      go_wp2_with fail
      refine (HR.out _ E3.out.bel).mono ?_
      rintro e w4 ⟨rfl, b4⟩
      have E4 := hide (E3.out.step b4)
      clear b4 E3 d0 d1
      have d0 := E4.out.doc.cell 0 rfl
      have d1 := E4.out.doc.cell 1 rfl
      go_wp2_with fail
      refine (HH.out _ E4.out.bel).mono ?_
      rintro e w5 ⟨rfl, b5⟩
      have E5 := hide (E4.out.step b5)
      clear b5 E4 d0 d1
      have d0 := E5.out.doc.cell 0 rfl
      have d1 := E5.out.doc.cell 1 rfl
      go_wp2_with fail
      go_ret
      exact ⟨by simp, E5.out.bel⟩
    | true =>
      rw [g] at HH
      rw [h, g, if_pos ⟨rfl, rfl⟩] at EV
      obtain ⟨m, em, m1, m2⟩ := EM.out h g
      rw [EV.out] at H1
      subst em
      have H3 := hide (fun W hb => H2.out m W hb m1 m2)
      clear H2 EM EV h g m1 m2
      generalize valE l C (m : Int) = tx at *
      have d0 := E0.out.doc.cell 0 rfl
      have d1 := E0.out.doc.cell 1 rfl
      go_enter Tryz.func3, Tryz.ntmps3
      go_wp2_with fail
      refine (HW.out _ E0.out.bel).mono ?_
      rintro e w1 ⟨rfl, b1⟩
      have E1 := hide (E0.out.step b1)
      clear b1 E0 d0 d1
      have d0 := E1.out.doc.cell 0 rfl
      have d1 := E1.out.doc.cell 1 rfl
      go_wp2_with fail
      refine (HC.out _ E1.out.bel).mono ?_
      rintro e w2 ⟨nv2, cv2, rfl, D2, b2⟩
      have D2 := hide D2
      have E2 := hide (E1.out.step b2)
      obtain ⟨p2, k2, rfl⟩ := nds_form D2.out.nds
      obtain ⟨q2, j2, rfl⟩ := cts_form D2.out.cts
      clear b2 E1 d0 d1
      have d0 := E2.out.doc.cell 0 rfl
      have d1 := E2.out.doc.cell 1 rfl
      go_wp2_with fail
      refine (H1.out _ _ _ E2.out.bel D2.out).mono ?_
      rintro e w3 ⟨rfl, b3⟩
      have E3 := hide (E2.out.step b3)
      clear b3 E2 d0 d1 D2
      have d0 := E3.out.doc.cell 0 rfl
      have d1 := E3.out.doc.cell 1 rfl
      go_wp2_with fail
      refine (HR.out _ E3.out.bel).mono ?_
      rintro e w4 ⟨rfl, b4⟩
      have E4 := hide (E3.out.step b4)
      clear b4 E3 d0 d1
      have d0 := E4.out.doc.cell 0 rfl
      have d1 := E4.out.doc.cell 1 rfl
      go_wp2_with fail
      refine (HH.out _ E4.out.bel).mono ?_
      rintro e w5 ⟨rfl, b5⟩
      have E5 := hide (E4.out.step b5)
      clear b5 E4 d0 d1
      have d0 := E5.out.doc.cell 0 rfl
      have d1 := E5.out.doc.cell 1 rfl
      go_wp2_with fail
      refine (H3.out _ E5.out.bel).mono ?_
      rintro e w6 ⟨rfl, b6⟩
      go_wp2_with fail
      go_ret
      exact ⟨by simp, chain E5.out.bel b6⟩

end Go.Proofs.YtlppocdhfeejkaaGreatDoor
