/-
  Plain words on the rounds of a block: the eight words, a round, all 64, and what is added to the state. No program is named here.
-/
import Derived.Test.YtodcpcdhkghgnaaDoorSched
namespace Go.Proofs.YtodcpcdhkghgnaaDoor
/-- Eight words. -/
structure St8 where
  a : UInt32
  b : UInt32
  c : UInt32
  d : UInt32
  e : UInt32
  f : UInt32
  g : UInt32
  h : UInt32
def St8.list (s : St8) : List UInt32 := [s.a, s.b, s.c, s.d, s.e, s.f, s.g, s.h]
def bs0 (x : UInt32) : UInt32 := rotr x 2 ^^^ rotr x 13 ^^^ rotr x 22
def bs1 (x : UInt32) : UInt32 := rotr x 6 ^^^ rotr x 11 ^^^ rotr x 25
def t1Of (s : St8) (k w : UInt32) : UInt32 := s.h + bs1 s.e + (s.e &&& s.f ^^^ ~~~s.e &&& s.g) + k + w
def t2Of (s : St8) : UInt32 := bs0 s.a + (s.a &&& s.b ^^^ s.a &&& s.c ^^^ s.b &&& s.c)
def rnd (s : St8) (k w : UInt32) : St8 := ⟨t1Of s k w + t2Of s, s.a, s.b, s.c, s.d + t1Of s k w, s.e, s.f, s.g⟩
/-- The words K. -/
def kTab : List UInt32 := [1116352408, 1899447441, 3049323471, 3921009573, 961987163, 1508970993, 2453635748, 2870763221, 3624381080, 310598401, 607225278, 1426881987, 1925078388, 2162078206, 2614888103, 3248222580, 3835390401, 4022224774, 264347078, 604807628, 770255983, 1249150122, 1555081692, 1996064986, 2554220882, 2821834349, 2952996808, 3210313671, 3336571891, 3584528711, 113926993, 338241895, 666307205, 773529912, 1294757372, 1396182291, 1695183700, 1986661051, 2177026350, 2456956037, 2730485921, 2820302411, 3259730800, 3345764771, 3516065817, 3600352804, 4094571909, 275423344, 430227734, 506948616, 659060556, 883997877, 958139571, 1322822218, 1537002063, 1747873779, 1955562222, 2024104815, 2227730452, 2361852424, 2428436474, 2756734187, 3204031479, 3329325298]
/-- The state at first. -/
def hTab : List UInt32 := [1779033703, 3144134277, 1013904242, 2773480762, 1359893119, 2600822924, 528734635, 1541459225]
def roundsTo (s : St8) (ws : List UInt32) : Nat → St8
  | 0 => s
  | k + 1 => rnd (roundsTo s ws k) (kTab.getD k 0) (ws.getD k 0)
def ofList8 (l : List UInt32) : St8 := ⟨l.getD 0 0, l.getD 1 0, l.getD 2 0, l.getD 3 0, l.getD 4 0, l.getD 5 0, l.getD 6 0, l.getD 7 0⟩
/-- The state behind one more block. -/
def mixed (st : List UInt32) (l : List UInt8) : List UInt32 := List.zipWith (· + ·) st (roundsTo (ofList8 st) (wordsTo l 64) 64).list
theorem t1_form (s : St8) (k w : UInt32) : IntKind.u32.wrap (IntKind.u32.wrap (IntKind.u32.wrap (IntKind.u32.wrap (iv s.h + bits .xor .u32 (bits .xor .u32 (iv (rotr s.e 6)) (iv (rotr s.e 11))) (iv (rotr s.e 25))) + bits .xor .u32 (bits .and .u32 (iv s.e) (iv s.f)) (bits .and .u32 (bits .xor .u32 4294967295 (iv s.e)) (iv s.g))) + iv k) + iv w) = iv (t1Of s k w) := by
  simp only [iv_not, iv_xor, iv_and, iv_add]; rfl
theorem t2_form (s : St8) : IntKind.u32.wrap (bits .xor .u32 (bits .xor .u32 (iv (rotr s.a 2)) (iv (rotr s.a 13))) (iv (rotr s.a 22)) + bits .xor .u32 (bits .xor .u32 (bits .and .u32 (iv s.a) (iv s.b)) (bits .and .u32 (iv s.a) (iv s.c))) (bits .and .u32 (iv s.b) (iv s.c))) = iv (t2Of s) := by
  simp only [iv_xor, iv_and, iv_add]; rfl
theorem length_kTab : kTab.length = 64 := rfl
theorem getD_map_wv (l : List UInt32) (i : Nat) (h : i < l.length) : ((l.map wv).toArray)[i]? = some (.int .u32 (iv (l.getD i 0))) := by
  simp [wv, List.getD_eq_getElem?_getD, h]
/-- The state while the rounds' words are added to it. -/
def addTo (st out : List UInt32) (k : Nat) : List UInt32 := (List.zipWith (· + ·) st out).take k ++ st.drop k
theorem addTo_get (st out : List UInt32) (hs : st.length = 8) (ho : out.length = 8) (k : Nat) (h : k < 8) : (((addTo st out k).map wv).toArray)[k]? = some (.int .u32 (iv (st.getD k 0))) := by
  have h1 : ((List.zipWith (· + ·) st out).take k).length = k := by simp [hs, ho]; omega
  rw [getD_map_wv _ _ (by simp [addTo, hs, ho]; omega)]
  congr 3
  rw [List.getD_eq_getElem?_getD, addTo, List.getElem?_append_right (by omega), h1]
  simp [List.getD_eq_getElem?_getD]
theorem addTo_set (st out : List UInt32) (hs : st.length = 8) (ho : out.length = 8) (k : Nat) (h : k < 8) : ((addTo st out k).map wv).toArray.setIfInBounds k (.int .u32 (iv (st.getD k 0 + out.getD k 0))) = ((addTo st out (k + 1)).map wv).toArray := by
  rw [List.setIfInBounds_toArray]
  congr 1
  have e : Value.int .u32 (iv (st.getD k 0 + out.getD k 0)) = wv (st.getD k 0 + out.getD k 0) := rfl
  rw [e, ← List.map_set]
  congr 1
  apply List.ext_getElem
  · simp [addTo, hs, ho]; omega
  · intro i h1 h2
    simp only [addTo, List.getElem_set, List.getElem_append, List.getElem_take, List.getElem_zipWith, List.getElem_drop, List.length_take, List.length_zipWith, hs, ho]
    have hi : i < 8 := by simp [addTo, hs, ho] at h2; omega
    by_cases hik : k = i
    · subst hik
      simp [List.getD_eq_getElem?_getD, hs, ho, h]
      intro hh; omega
    · rw [if_neg hik]
      by_cases hlt : i < k
      · rw [dif_pos (by omega), dif_pos (by omega)]
      · rw [dif_neg (by omega), dif_neg (by omega)]
        congr 1; omega
theorem addTo_zero (st out : List UInt32) : addTo st out 0 = st := by simp [addTo]
theorem addTo_full (st out : List UInt32) (hs : st.length = 8) (ho : out.length = 8) : addTo st out 8 = List.zipWith (· + ·) st out := by
  unfold addTo; rw [List.take_of_length_le (by simp [hs, ho]), List.drop_of_length_le (by omega), List.append_nil]
theorem length_addTo (st out : List UInt32) (hs : st.length = 8) (ho : out.length = 8) (k : Nat) (h : k ≤ 8) : (addTo st out k).length = 8 := by simp [addTo, hs, ho]; omega
end Go.Proofs.YtodcpcdhkghgnaaDoor
