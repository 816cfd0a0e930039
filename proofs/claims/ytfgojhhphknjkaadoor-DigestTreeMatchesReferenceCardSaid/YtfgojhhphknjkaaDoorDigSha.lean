/- SHA-256 as a plain function on lists of numbers. -/
namespace Go.Proofs.YtfgojhhphknjkaaDoor

def keyL : List Nat := [1116352408, 1899447441, 3049323471, 3921009573, 961987163, 1508970993, 2453635748, 2870763221, 3624381080, 310598401, 607225278, 1426881987, 1925078388, 2162078206, 2614888103, 3248222580, 3835390401, 4022224774, 264347078, 604807628, 770255983, 1249150122, 1555081692, 1996064986, 2554220882, 2821834349, 2952996808, 3210313671, 3336571891, 3584528711, 113926993, 338241895, 666307205, 773529912, 1294757372, 1396182291, 1695183700, 1986661051, 2177026350, 2456956037, 2730485921, 2820302411, 3259730800, 3345764771, 3516065817, 3600352804, 4094571909, 275423344, 430227734, 506948616, 659060556, 883997877, 958139571, 1322822218, 1537002063, 1747873779, 1955562222, 2024104815, 2227730452, 2361852424, 2428436474, 2756734187, 3204031479, 3329325298]

/-- A word rotated right. -/
def rotr (x n : Nat) : Nat := x * 2 ^ (32 - n) % 4294967296 ||| x / 2 ^ n
def sg0 (x : Nat) : Nat := rotr x 7 ^^^ rotr x 18 ^^^ x / 8
def sg1 (x : Nat) : Nat := rotr x 17 ^^^ rotr x 19 ^^^ x / 1024
def be1 (x : Nat) : Nat := rotr x 6 ^^^ rotr x 11 ^^^ rotr x 25
def be0 (x : Nat) : Nat := rotr x 2 ^^^ rotr x 13 ^^^ rotr x 22
def cho (e f g : Nat) : Nat := (e &&& f) ^^^ ((e ^^^ 4294967295) &&& g)
def maj (a b c : Nat) : Nat := (a &&& b) ^^^ (a &&& c) ^^^ (b &&& c)

/-- The i-th word of a block. -/
def wordAt (b : List Nat) (i : Nat) : Nat := b.getD (4 * i) 0 * 16777216 ||| b.getD (4 * i + 1) 0 * 65536 ||| b.getD (4 * i + 2) 0 * 256 ||| b.getD (4 * i + 3) 0
/-- A further word, out of those before it, the last one first. -/
def nextW (r : List Nat) : Nat := (((r.getD 15 0 + sg0 (r.getD 14 0)) % 4294967296 + r.getD 6 0) % 4294967296 + sg1 (r.getD 1 0)) % 4294967296
/-- The first words, the last one first. -/
def wordsR (b : List Nat) : Nat → List Nat
  | 0 => []
  | n + 1 => (fun r => (if n < 16 then wordAt b n else nextW r) :: r) (wordsR b n)

structure St where
  a : Nat
  b : Nat
  c : Nat
  d : Nat
  e : Nat
  f : Nat
  g : Nat
  h : Nat

def tOf (s : St) (k w : Nat) : Nat := ((((s.h + be1 s.e) % 4294967296 + cho s.e s.f s.g) % 4294967296 + k) % 4294967296 + w) % 4294967296
def uOf (s : St) : Nat := (be0 s.a + maj s.a s.b s.c) % 4294967296
def rnd (s : St) (k w : Nat) : St := ⟨(tOf s k w + uOf s) % 4294967296, s.a, s.b, s.c, (s.d + tOf s k w) % 4294967296, s.e, s.f, s.g⟩
def rnds (b : List Nat) (s : St) : Nat → St
  | 0 => s
  | n + 1 => rnd (rnds b s n) (keyL.getD n 0) ((wordsR b 64).getD (63 - n) 0)
def St.plus (s r : St) : St := ⟨(s.a + r.a) % 4294967296, (s.b + r.b) % 4294967296, (s.c + r.c) % 4294967296, (s.d + r.d) % 4294967296, (s.e + r.e) % 4294967296, (s.f + r.f) % 4294967296, (s.g + r.g) % 4294967296, (s.h + r.h) % 4294967296⟩
def mix (s : St) (b : List Nat) : St := s.plus (rnds b s 64)
def ini : St := ⟨1779033703, 3144134277, 1013904242, 2773480762, 1359893119, 2600822924, 528734635, 1541459225⟩
def St.list (s : St) : List Nat := [s.a, s.b, s.c, s.d, s.e, s.f, s.g, s.h]
def word4 (x : Nat) : List Nat := [x / 16777216 % 256, x / 65536 % 256, x / 256 % 256, x % 256]

def padL (n : Nat) : List Nat := 128 :: (List.replicate ((119 - n % 64) % 64) 0 ++ [8 * n / 2 ^ 56 % 256, 8 * n / 2 ^ 48 % 256, 8 * n / 2 ^ 40 % 256, 8 * n / 2 ^ 32 % 256, 8 * n / 2 ^ 24 % 256, 8 * n / 2 ^ 16 % 256, 8 * n / 2 ^ 8 % 256, 8 * n % 256])
def chunks : Nat → List Nat → List (List Nat)
  | 0, _ => []
  | n + 1, l => l.take 64 :: chunks n (l.drop 64)
def shaN (m : List Nat) : List Nat := (((chunks ((m ++ padL m.length).length / 64) (m ++ padL m.length)).foldl mix ini).list).flatMap word4
end Go.Proofs.YtfgojhhphknjkaaDoor
