package tests

import (
	"bytes"
	"encoding/binary"
	"math/rand"
	"slices"
	"strings"
	"testing"

	"loop.example/g00754/impl"
)

const (
	frameHead = 10    // the bytes of a frame that are ahead of its body
	mostBytes = 65535 // of a body
)

// frameOf is what the document's words tell of a frame, also where Framed would make none: how many bytes, in two; the name, in eight; the body.
func frameOf(body []byte) []byte {
	b := binary.LittleEndian.AppendUint16(nil, uint16(len(body)))
	b = binary.LittleEndian.AppendUint64(b, uint64(impl.NameOf(body)))
	return append(b, body...)
}

// logOf is the frames of these bodies, one behind the other.
func logOf(bodies ...[]byte) []byte {
	var b []byte
	for _, body := range bodies {
		b = append(b, frameOf(body)...)
	}
	return b
}

// framesByWords is what the document's words tell of any bytes: each frame is the one that is made of its own body.
func framesByWords(b []byte) ([][]byte, int64) {
	bodies, end := [][]byte{}, 0
	for {
		rest := b[end:]
		if len(rest) < 2 {
			break
		}
		size := frameHead + int(binary.LittleEndian.Uint16(rest))
		if size > len(rest) || !bytes.Equal(rest[:size], frameOf(rest[frameHead:size])) {
			break
		}
		bodies = append(bodies, bytes.Clone(rest[frameHead:size]))
		end += size
	}
	return bodies, int64(end)
}

// mustRead asks FramesIn for just these bodies and that number.
func mustRead(t *testing.T, b []byte, bodies [][]byte, n int) {
	t.Helper()
	if got, end := impl.FramesIn(b); end != int64(n) || !sameTexts(got, bodies) {
		t.Fatalf("FramesIn of %d bytes, from %v on, is %d bodies and %d, want %d and %d", len(b), b[:min(len(b), 40)], len(got), end, len(bodies), n)
	}
}

// mustReadAll asks for all of these bodies, and of how many bytes their frames are.
func mustReadAll(t *testing.T, bodies ...[]byte) {
	t.Helper()
	n := 0
	for _, body := range bodies {
		n += frameHead + len(body)
	}
	mustRead(t, logOf(bodies...), bodies, n)
}

// edgeSizes are how many bytes a body has where one of the two bytes that tell it is at an edge.
var edgeSizes = []int{0, 1, 2, 9, 10, 11, 254, 255, 256, 257, 511, 512, 513, 32767, 32768, 65279, 65280, 65281, 65534, 65535}

// edgeBodies are drawn bodies of these sizes, and bodies of nothing but one byte.
func edgeBodies() [][]byte {
	r := rand.New(rand.NewSource(110))
	list := [][]byte{}
	for _, size := range edgeSizes {
		body := make([]byte, size)
		r.Read(body)
		list = append(list, body, make([]byte, size), bytes.Repeat([]byte{255}, size))
	}
	return list
}

// drawnBodies are up to most bodies, each of a few bytes.
func drawnBodies(r *rand.Rand, most int) [][]byte {
	list := make([][]byte, r.Intn(most+1))
	for i := range list {
		list[i] = drawnBytes(r, 12)
	}
	return list
}

// someBodies are lists of bodies whose last one is an ordinary body or one of a few bytes.
func someBodies() [][][]byte {
	return [][][]byte{
		{{}}, {{7}}, {{5, 6, 7}}, {{}, {}}, {{}, {0}}, {{1}, {}}, {{5, 6, 7}, {}}, {[]byte("abc"), []byte("abc")},
		{{}, {1}, {2, 3}, {4, 5, 6}, {}}, {{1, 2, 3}, make([]byte, 10)}, {{9}, bytes.Repeat([]byte{255}, 11)},
		{bytesOf(leafOf("ab", 1, 15)), nil, bytesOf(forkOf("v", kidsAt(1, 2)...))},
		{{3}, make([]byte, 255)}, {make([]byte, 256), make([]byte, 257)}, {{1}, logOf([]byte{2}, []byte{3})},
	}
}

// noFrames are bytes that are no frame, nor the beginning of one.
func noFrames() [][]byte {
	list := [][]byte{{0}, {255}, {1, 2, 3}, {0, 0}, make([]byte, 9), make([]byte, 10), make([]byte, 11), make([]byte, 5000), bytes.Repeat([]byte{255}, 9), bytes.Repeat([]byte{255}, 70000), []byte(strings.Repeat("abc", 50))}
	for _, body := range [][]byte{{}, {7}, {5, 6, 7}, make([]byte, 300)} {
		for i := range frameHead {
			bent := frameOf(body)
			bent[i] ^= 1
			list = append(list, bent)
		}
		list = append(list, frameOf(body)[1:], append([]byte{0}, frameOf(body)...), bytes.Repeat(frameOf(body)[1:], 20))
	}
	return list
}

// P11, by hand: the two names are the sentence of chapter 1, written out.
func TestP11ByHand(t *testing.T) {
	for _, c := range []struct {
		body []byte
		name int64
	}{
		{nil, 7<<31 + 11 + 1},
		{[]byte{0}, (7*131+1)<<31 + (11*137 + 1) + 1},
		{[]byte{1, 2}, ((7*131+2)*131+3)<<31 + ((11*137+2)*137 + 3) + 1},
	} {
		want := []byte{byte(len(c.body)), 0}
		for i := range 8 {
			want = append(want, byte(c.name>>(8*i)))
		}
		want = append(want, c.body...)
		if got := impl.Framed(c.body); !bytes.Equal(got, want) {
			t.Fatalf("Framed(%v) = %v, want %v", c.body, got, want)
		}
		mustRead(t, want, [][]byte{c.body}, len(want))
	}
	if got, want := impl.Framed(nil), []byte{0, 0, 12, 0, 0, 128, 3, 0, 0, 0}; !bytes.Equal(got, want) {
		t.Fatalf("Framed(nil) = %v, want %v", got, want)
	}
}

// P11: how many bytes, the lower byte first; the eight bytes of the name; the body: of each body, those at the edges among them.
func TestP11FramedIsItsParts(t *testing.T) {
	r := rand.New(rand.NewSource(111))
	list := append(edgeBodies(), nil, logOf(nil, nil))
	for range 2000 {
		list = append(list, drawnBytes(r, 600))
	}
	for _, body := range list {
		frame := impl.Framed(body)
		if len(frame) != 10+len(body) {
			t.Fatalf("the frame of %d bytes has %d", len(body), len(frame))
		}
		if int(frame[0])+256*int(frame[1]) != len(body) {
			t.Fatalf("the frame of %d bytes begins with %v", len(body), frame[:2])
		}
		if !bytes.Equal(frame[2:10], impl.NameBytes(impl.NameOf(body))) || !bytes.Equal(frame[10:], body) {
			t.Fatalf("Framed(%v) = %v", body, frame)
		}
		if name, is := impl.NameFrom(frame[2:10]); !is || len(body) < 1000 && name != bigName(body) {
			t.Fatalf("the frame of %v has the name %d, %v, want %d", body, name, is, bigName(body))
		}
		mustRead(t, frame, [][]byte{body}, len(frame))
	}
}

// P11: the first bytes of a frame at the edges, written out.
func TestP11LengthsByHand(t *testing.T) {
	for _, c := range []struct {
		size int
		want []byte
	}{{0, []byte{0, 0}}, {1, []byte{1, 0}}, {255, []byte{255, 0}}, {256, []byte{0, 1}}, {257, []byte{1, 1}}, {4660, []byte{0x34, 0x12}}, {65280, []byte{0, 255}}, {65535, []byte{255, 255}}} {
		if frame := impl.Framed(make([]byte, c.size)); len(frame) != 10+c.size || !bytes.Equal(frame[:2], c.want) {
			t.Fatalf("the frame of %d bytes has %d, and begins with %v, want %v", c.size, len(frame), frame[:min(2, len(frame))], c.want)
		}
	}
}

// P11: a body of more than 65535 bytes has no frame; what two bytes tell of it is not taken for it.
func TestP11TooLong(t *testing.T) {
	for _, size := range []int{65536, 65537, 65545, 65546, 65791, 131071, 131072, 1 << 20, 1<<24 + 3} {
		body := bytes.Repeat([]byte{1}, size)
		if frame := impl.Framed(body); len(frame) != 0 {
			t.Fatalf("the frame of %d bytes has %d, want nothing", size, len(frame))
		}
		mustRead(t, frameOf(body), nil, 0)
		mustRead(t, append(frameOf([]byte{9}), frameOf(body)...), [][]byte{{9}}, 11)
	}
}

// P11: of several frames, one behind the other, the bodies in order, and how many bytes these frames are.
func TestP11OneBehindTheOther(t *testing.T) {
	r := rand.New(rand.NewSource(112))
	mustReadAll(t)
	mustReadAll(t, edgeBodies()...)
	for _, bodies := range someBodies() {
		mustReadAll(t, bodies...)
	}
	for range 1000 {
		bodies := drawnBodies(r, 20)
		var log []byte
		for _, body := range bodies {
			log = append(log, impl.Framed(body)...)
		}
		mustRead(t, log, bodies, len(log))
		mustReadAll(t, bodies...)
	}
}

// mustTear asks, with the bytes up to each place of the last frame, for the bodies ahead of it.
func mustTear(t *testing.T, bodies [][]byte) {
	t.Helper()
	ahead := bodies[:len(bodies)-1]
	log, end := logOf(bodies...), len(logOf(ahead...))
	for cut := end; cut < len(log); cut++ {
		mustRead(t, log[:cut], ahead, end)
	}
	mustRead(t, log, bodies, len(log))
}

// P11: however many bytes of the last frame are torn off, what is ahead of it is read and nothing else.
func TestP11TornOff(t *testing.T) {
	r := rand.New(rand.NewSource(113))
	for _, bodies := range someBodies() {
		mustTear(t, bodies)
	}
	for range 200 {
		mustTear(t, append(drawnBodies(r, 6), drawnBytes(r, 40)))
	}
	long := make([]byte, mostBytes)
	log := logOf([]byte{1, 2}, long)
	for _, torn := range []int{1, 2, 3, 255, 256, 257, 65279, 65280, 65281, 65534, 65535, 65536, 65537, 65543, 65544, 65545} {
		mustRead(t, log[:len(log)-torn], [][]byte{{1, 2}}, 12)
	}
}

// P11: of what was written up to any place, the whole frames are read.
func TestP11TornAnywhere(t *testing.T) {
	for _, bodies := range someBodies() {
		log := logOf(bodies...)
		whole, end := 0, 0
		for cut := range len(log) + 1 {
			if whole < len(bodies) && cut == end+frameHead+len(bodies[whole]) {
				end = cut
				whole++
			}
			mustRead(t, log[:cut], bodies[:whole], end)
		}
		if whole != len(bodies) {
			t.Fatalf("of %d frames %d were read", len(bodies), whole)
		}
	}
}

// P11: bytes behind the last whole frame that are no frame change nothing of what is told, also where a right frame is behind them.
func TestP11BehindTheLast(t *testing.T) {
	for _, bodies := range append(someBodies(), nil) {
		log := logOf(bodies...)
		for _, behind := range noFrames() {
			mustRead(t, slices.Concat(log, behind), bodies, len(log))
			mustRead(t, slices.Concat(log, behind, log), bodies, len(log))
			for cut := range min(len(behind), 30) {
				mustRead(t, slices.Concat(log, behind[:cut]), bodies, len(log))
			}
		}
	}
}

// P11: nothing to be read at all, and fewer bytes than are ahead of a body.
func TestP11TooFewBytes(t *testing.T) {
	mustRead(t, nil, nil, 0)
	mustRead(t, []byte{}, nil, 0)
	for n := range frameHead {
		for _, b := range [][]byte{make([]byte, n), bytes.Repeat([]byte{255}, n), frameOf(nil)[:n], frameOf([]byte{7})[:n], frameOf(make([]byte, 700))[:n]} {
			mustRead(t, b, nil, 0)
			mustRead(t, append(frameOf([]byte{1}), b...), [][]byte{{1}}, 11)
		}
	}
	mustRead(t, frameOf(nil)[:10], [][]byte{nil}, 10)
}

// P11: a length that tells one byte more than there is, or more than that: the name is right, of what there is and of what there should be.
func TestP11LengthTellsTooMuch(t *testing.T) {
	for _, size := range []int{0, 1, 2, 10, 255, 256, 257, 1000, 65534} {
		body := make([]byte, size)
		for _, more := range []int{1, 2, 10, 255, 256, 257, 65535 - size} {
			if size+more > mostBytes {
				continue
			}
			short := frameOf(body)
			binary.LittleEndian.PutUint16(short, uint16(size+more))
			mustRead(t, short, nil, 0)
			torn := frameOf(make([]byte, size+more))
			mustRead(t, torn[:frameHead+size], nil, 0)
			mustRead(t, append(frameOf([]byte{1}), short...), [][]byte{{1}}, 11)
			mustRead(t, torn, [][]byte{make([]byte, size+more)}, frameHead+size+more)
		}
	}
}

// mustNotRead asks of bent bytes, which a right frame is ahead of and behind, that neither they are read nor what is behind them.
func mustNotRead(t *testing.T, bent []byte) {
	t.Helper()
	mustRead(t, bent, nil, 0)
	right := frameOf([]byte{4, 5})
	mustRead(t, slices.Concat(right, bent, right), [][]byte{{4, 5}}, len(right))
}

// P11: a name that is wrong in any of its bytes, in each way that a byte can be wrong; one below 0 is among these.
func TestP11WrongName(t *testing.T) {
	for _, body := range [][]byte{nil, {0}, {7}, {5, 6, 7}, []byte("0123456789"), make([]byte, 256)} {
		for place := 2; place < frameHead; place++ {
			right := frameOf(body)[place]
			for c := range 256 {
				bent := frameOf(body)
				bent[place] = byte(c)
				if byte(c) != right {
					mustNotRead(t, bent)
				}
			}
		}
	}
}

// P11: names that are not that of the body: none at all, that of another body, of the frame, of a part, of the length and the body.
func TestP11OtherNames(t *testing.T) {
	for _, body := range [][]byte{{7}, {5, 6, 7}, []byte("0123456789")} {
		frame := frameOf(body)
		name := impl.NameOf(body)
		for _, other := range []int64{0, 1, -1, -name, ^name, name + 1, name - 1, name + 1<<31, name - 1<<31, name ^ -1<<63, name & (1<<32 - 1), name >> 8, name << 8,
			impl.NameOf(nil), impl.NameOf(body[1:]), impl.NameOf(body[:len(body)-1]), impl.NameOf(frame), impl.NameOf(append(body, 0)), impl.NameOf(append(frame[:2:2], body...))} {
			bent := bytes.Clone(frame)
			binary.LittleEndian.PutUint64(bent[2:], uint64(other))
			mustNotRead(t, bent)
		}
		slices.Reverse(frame[2:10])
		mustNotRead(t, frame)
	}
}

// P11: a body that is changed in any of its bytes, and one whose bytes are out of their places.
func TestP11ChangedBody(t *testing.T) {
	for _, size := range []int{1, 2, 3, 40, 255, 256, 257} {
		body := make([]byte, size)
		for i := range body {
			body[i] = byte(i * 7)
		}
		for i := range body {
			for _, c := range []byte{1, 2, 16, 128, 255} {
				bent := frameOf(body)
				bent[frameHead+i] ^= c
				mustNotRead(t, bent)
			}
			if i > 0 {
				bent := frameOf(body)
				bent[frameHead+i], bent[frameHead+i-1] = bent[frameHead+i-1], bent[frameHead+i]
				mustNotRead(t, bent)
			}
		}
	}
	for c := 1; c < 256; c++ {
		bent := frameOf([]byte{0})
		bent[frameHead] = byte(c)
		mustNotRead(t, bent)
	}
	long := make([]byte, mostBytes)
	for _, place := range []int{0, 1, 255, 256, 32767, 65279, 65280, 65533, 65534} {
		bent := frameOf(long)
		bent[frameHead+place] = 1
		mustNotRead(t, bent)
	}
}

// P11: each other length, also where there are as many bytes behind as it tells.
func TestP11ChangedLength(t *testing.T) {
	for _, body := range [][]byte{nil, {0}, {5, 6, 7}, make([]byte, 256)} {
		for _, behind := range [][]byte{nil, frameOf([]byte{1}), make([]byte, 600)} {
			for size := range 700 {
				bent := append(frameOf(body), behind...)
				binary.LittleEndian.PutUint16(bent, uint16(size))
				if size != len(body) {
					mustNotRead(t, bent)
				}
			}
		}
		for place := range 2 {
			for c := 1; c < 256; c++ {
				bent := append(frameOf(body), make([]byte, 70000)...)
				bent[place] ^= byte(c)
				mustRead(t, bent, nil, 0)
			}
		}
		if len(body)/256 != len(body)%256 {
			turned := frameOf(body)
			turned[0], turned[1] = turned[1], turned[0]
			mustNotRead(t, append(turned, make([]byte, 70000)...))
		}
	}
}

// P11: bytes that are put in or left out anywhere in the first frame.
func TestP11ShiftedFrame(t *testing.T) {
	for _, body := range [][]byte{{7}, {5, 6, 7}, []byte("0123456789abcdef")} {
		frame := frameOf(body)
		for i := range frame {
			for _, c := range []byte{1, 128, 255} {
				bent := slices.Insert(bytes.Clone(frame), i, frame[i]^c)
				mustNotRead(t, bent)
			}
			if i < frameHead {
				bent := slices.Delete(bytes.Clone(frame), i, i+1)
				if !bytes.Equal(bent, frame[:len(frame)-1]) {
					mustNotRead(t, append(bent, 0))
				}
			}
		}
	}
}

// P11: behind a wrong frame nothing is read, however many right ones there are.
func TestP11WrongAhead(t *testing.T) {
	many := [][]byte{}
	for i := range 200 {
		many = append(many, bytes.Repeat([]byte{byte(i)}, i))
	}
	log := logOf(many...)
	for _, bent := range noFrames() {
		mustRead(t, slices.Concat(bent, log), nil, 0)
	}
	end := 0
	for i, body := range many {
		bent := bytes.Clone(log)
		bent[end+2]++
		mustRead(t, bent, many[:i], end)
		end += frameHead + len(body)
	}
}

// P11: one frame many times is its body as often.
func TestP11SameFrameManyTimes(t *testing.T) {
	for _, body := range [][]byte{nil, {0}, {7}, []byte("again"), make([]byte, 300)} {
		for _, times := range []int{1, 2, 3, 255, 256, 257, 1000} {
			log := bytes.Repeat(frameOf(body), times)
			mustRead(t, log, slices.Repeat([][]byte{body}, times), len(log))
			mustRead(t, log[:len(log)-1], slices.Repeat([][]byte{body}, times-1), len(log)-frameHead-len(body))
		}
	}
}

// P11: a body that is itself frames is one body; its frames are not read with it, right or torn.
func TestP11FramesOfFrames(t *testing.T) {
	for _, bodies := range someBodies() {
		inner := logOf(bodies...)
		mustReadAll(t, inner)
		mustReadAll(t, []byte{1}, inner, inner, nil)
		mustRead(t, frameOf(inner)[:frameHead+len(inner)-1], nil, 0)
		mustReadAll(t, inner[:len(inner)-1])
		body := []byte("inmost")
		for range 50 {
			mustReadAll(t, body)
			body = impl.Framed(body)
		}
		for range 50 {
			got, n := impl.FramesIn(body)
			if len(got) != 1 || n != int64(len(body)) {
				t.Fatalf("FramesIn(%v) = %v, %d", body, got, n)
			}
			body = got[0]
		}
		if string(body) != "inmost" {
			t.Fatalf("the inmost body is %q", body)
		}
	}
}

// P11: a great many frames of empty bodies, and of the longest.
func TestP11GreatMany(t *testing.T) {
	const times = 300000
	log := bytes.Repeat(frameOf(nil), times)
	mustRead(t, log, make([][]byte, times), 10*times)
	mustRead(t, append(log, log[:9]...), make([][]byte, times), 10*times)
	mustRead(t, append([]byte{0}, log...), nil, 0)
	long := bytes.Repeat([]byte{200}, mostBytes)
	log = bytes.Repeat(frameOf(long), 60)
	mustRead(t, log, slices.Repeat([][]byte{long}, 60), len(log))
	mustRead(t, log[:len(log)-1], slices.Repeat([][]byte{long}, 59), 59*65545)
}

// P11: a log that was cut at what was told is read whole, and what is written behind it there is read too.
func TestP11WrittenOn(t *testing.T) {
	r := rand.New(rand.NewSource(114))
	for range 1000 {
		log := logOf(drawnBodies(r, 5)...)
		log = append(log[:r.Intn(len(log)+1)], drawnBytes(r, 9)...)
		bodies, n := impl.FramesIn(log)
		mustRead(t, log[:n], bodies, int(n))
		next := drawnBytes(r, 20)
		log = append(log[:n], impl.Framed(next)...)
		mustRead(t, log, append(bodies, next), len(log))
	}
}

// bentBytes is b with a byte changed, put in or left out somewhere, with some torn off, or with more behind it.
func bentBytes(r *rand.Rand, b, more []byte) []byte {
	place := r.Intn(len(b) + 1)
	switch r.Intn(5) {
	case 0:
		b = b[:place]
	case 1:
		b = append(b, more...)
	case 2:
		b = slices.Insert(b, place, byte(r.Intn(256)))
	case 3:
		b = slices.Delete(b, place, min(place+1, len(b)))
	case 4:
		if place < len(b) {
			b[place] ^= 1 << r.Intn(8)
		}
	}
	return b
}

// drawnLog is frames that are often bent, in one place or in two.
func drawnLog(r *rand.Rand) []byte {
	log := logOf(drawnBodies(r, 8)...)
	for range max(0, r.Intn(5)-2) {
		log = bentBytes(r, log, drawnBytes(r, 20))
	}
	return log
}

// P19: whatever the bytes are, there is an answer, and it is what the document's words tell.
func TestP19FramesAnswerAlways(t *testing.T) {
	r := rand.New(rand.NewSource(115))
	whole, partly, none := 0, 0, 0
	for i := range 20000 {
		b := drawnLog(r)
		if i%10 == 0 {
			b = drawnBytes(r, 300)
		}
		bodies, n := framesByWords(b)
		mustRead(t, b, bodies, int(n))
		switch {
		case n == int64(len(b)):
			whole++
		case n > 0:
			partly++
		default:
			none++
		}
		if frame := impl.Framed(b); !bytes.Equal(frame, frameOf(b)) {
			t.Fatalf("Framed(%v) = %v", b, frame)
		}
	}
	if whole < 5000 || partly < 3000 || none < 2000 {
		t.Fatalf("%d logs are read whole, %d partly, of %d nothing", whole, partly, none)
	}
	for first := range 256 {
		for second := range 256 {
			mustRead(t, []byte{byte(first), byte(second)}, nil, 0)
		}
	}
}

// frameArgs are bodies and logs, right ones and bent ones.
func frameArgs() [][]byte {
	r := rand.New(rand.NewSource(116))
	list := append(noFrames(), nil, make([]byte, mostBytes), make([]byte, mostBytes+1))
	for _, bodies := range someBodies() {
		log := logOf(bodies...)
		list = append(list, log, log[:len(log)-1], append(slices.Clip(log), 1, 2, 3))
	}
	for range 100 {
		list = append(list, drawnLog(r))
	}
	return list
}

// P19: the argument stays, and so does the spare room behind it; no answer depends on that room.
func TestP19FramesLeaveTheirArguments(t *testing.T) {
	for _, b := range frameArgs() {
		frame := impl.Framed(bytes.Clone(b))
		bodies, n := framesByWords(b)
		for _, spare := range [][]byte{spareBytes, frameOf([]byte{1}), make([]byte, 70000)} {
			mustStay(t, b, spare, func(arg []byte) {
				if !bytes.Equal(impl.Framed(arg), frame) {
					t.Errorf("Framed(%v) tells the spare room", b)
				}
			})
			mustStay(t, b, spare, func(arg []byte) { mustRead(t, arg, bodies, int(n)) })
		}
	}
}

// P19: what is torn off is not read where it lies in the spare room.
func TestP19TornOffIntoTheSpareRoom(t *testing.T) {
	for _, bodies := range someBodies() {
		log := logOf(bodies...)
		for cut := range log {
			want, n := framesByWords(log[:cut])
			mustStay(t, log[:cut], log[cut:], func(arg []byte) { mustRead(t, arg, want, int(n)) })
		}
	}
}

// P19: a frame is new memory: it shares none with the body, nor with another answer, spare room included.
func TestP19FramesAreNewMemory(t *testing.T) {
	for _, body := range frameArgs() {
		mustBeNew(t, func() []byte { return impl.Framed(body) })
		arg := append(bytes.Clone(body), spareBytes...)
		arg = arg[:len(body)]
		want := impl.Framed(body)
		frame := impl.Framed(arg)
		spoil(arg)
		if !bytes.Equal(frame, want) {
			t.Fatalf("the frame of %v changes with its body", body)
		}
		arg = slices.Concat(body, spareBytes)
		before := bytes.Clone(arg)
		spoil(impl.Framed(arg[:len(body)]))
		if !bytes.Equal(arg, before) {
			t.Fatalf("the body %v changes with its frame", body)
		}
	}
}

// P19: the bodies are new memory, each by itself: none shares any with the argument, another body or another answer, spare room included.
func TestP19BodiesAreNewMemory(t *testing.T) {
	for _, b := range append(frameArgs(), bytes.Repeat(frameOf([]byte("again")), 20)) {
		arg := slices.Concat(b, spareBytes)
		before := bytes.Clone(arg)
		texts.mustBeNew(t, func() [][]byte {
			bodies, _ := impl.FramesIn(arg[:len(b)])
			return bodies
		})
		if !bytes.Equal(arg, before) {
			t.Fatalf("the bodies in %v share memory with it", b)
		}
		bodies, n := impl.FramesIn(arg[:len(b)])
		want := cloneTexts(bodies)
		spoil(arg)
		if !sameTexts(bodies, want) {
			t.Fatalf("the bodies %v are %v once the argument is written into", want, bodies)
		}
		mustRead(t, b, want, int(n))
	}
}

// P19: nothing can be put behind a body into the room of another one.
func TestP19BodiesGrowApart(t *testing.T) {
	for _, bodies := range someBodies() {
		log := logOf(bodies...)
		got, _ := impl.FramesIn(log)
		for i := range got {
			_ = append(got[i], spareBytes...)
		}
		if !sameTexts(got, bodies) || !bytes.Equal(log, logOf(bodies...)) {
			t.Fatalf("the bodies %v are %v once they are written on", bodies, got)
		}
	}
}
