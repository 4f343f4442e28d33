package record

import (
	"encoding/binary"
	"hash/crc32"
	"math"
	"math/rand"

	"stillroom/api"
)

var (
	sizes   = []int{0, 1, 2, 63, 64, 255, 256, 999, 1000}
	numbers = []uint64{0, 1, 255, 256, 1<<32 - 1, 1 << 32, api.MaxNum - 1, api.MaxNum, api.MaxNum + 1, api.MaxNum << 1, 1<<48 + 1, 1 << 63, math.MaxUint64}
)

// textOf is n bytes, the same ones for the same seed.
func textOf(seed int64, n int) string {
	b := make([]byte, n)
	rand.New(rand.NewSource(seed)).Read(b)
	return string(b)
}

// head is one as the document has it, its sum 0.
func head(s, r, kind byte, tenant uint32, epoch, object, seq uint64, length uint32) []byte {
	b := []byte{s, r, kind}
	b = binary.BigEndian.AppendUint32(b, tenant)
	b = binary.BigEndian.AppendUint64(b, epoch)
	b = binary.BigEndian.AppendUint64(b, object)
	b = binary.BigEndian.AppendUint64(b, seq)
	b = binary.BigEndian.AppendUint32(b, length)
	return append(b, 0, 0, 0, 0)
}

// summed is what stands in front of a sum, and a body, with their sum between.
func summed(front []byte, body string) []byte {
	table := crc32.MakeTable(crc32.Castagnoli)
	sum := crc32.Checksum([]byte(string(front)+body), table)
	b := binary.BigEndian.AppendUint32([]byte(string(front)), sum)
	return append(b, body...)
}

// written is r as bytes by another writer, which asks of no limit.
func written(r api.Record) []byte {
	b := head('S', 'R', byte(r.Kind), r.Tenant, r.Epoch, r.Object, r.Seq, uint32(len(r.Body)))
	return summed(b[:35], r.Body)
}

// reckoned is what Decode is to answer, told in another way: by what is written
// of the record that the head tells of.
func reckoned(b []byte) (api.Record, int, api.Errno) {
	const begin = "SR"
	for i := 0; i < len(b) && i < 3; i++ {
		if i < 2 && b[i] != begin[i] || i == 2 && (b[i] < 1 || b[i] > 4) {
			return api.Record{}, 0, api.ErrCorrupt
		}
	}
	if len(b) < 39 {
		return api.Record{}, 0, api.ErrMore
	}
	r := api.Record{Kind: int(b[2]), Tenant: binary.BigEndian.Uint32(b[3:])}
	for i, n := range []*uint64{&r.Epoch, &r.Object, &r.Seq} {
		*n = binary.BigEndian.Uint64(b[7+8*i:])
		if *n > 1<<40 {
			return api.Record{}, 0, api.ErrCorrupt
		}
	}
	length := int(binary.BigEndian.Uint32(b[31:]))
	switch {
	case length > 1000:
		return api.Record{}, 0, api.ErrCorrupt
	case 39+length > len(b):
		return api.Record{}, 0, api.ErrMore
	}
	r.Body = string(b[39 : 39+length])
	if string(written(r)) != string(b[:39+length]) {
		return api.Record{}, 0, api.ErrCorrupt
	}
	return r, 39 + length, api.OK
}

// randomRecord is one that may be.
func randomRecord(random *rand.Rand) api.Record {
	return api.Record{
		Kind:   1 + random.Intn(4),
		Tenant: random.Uint32(),
		Epoch:  uint64(random.Int63n(api.MaxNum+1)) >> random.Intn(41),
		Object: uint64(random.Int63n(api.MaxNum+1)) >> random.Intn(41),
		Seq:    uint64(random.Int63n(api.MaxNum+1)) >> random.Intn(41),
		Body:   textOf(random.Int63(), random.Intn(1001)>>random.Intn(10)),
	}
}

// anything is a text that may be a record, one cut off or with bytes behind it,
// one with something amiss whose sum is right, or any bytes.
func anything(random *rand.Rand) []byte {
	r := randomRecord(random)
	b := written(r)
	switch random.Intn(6) {
	case 0:
		return b[:random.Intn(len(b)+1)]
	case 1:
		return append(b, textOf(random.Int63(), random.Intn(50))...)
	case 2:
		b[random.Intn(len(b))] ^= byte(random.Intn(256))
		return b[:random.Intn(len(b)+1)]
	case 3:
		n := numbers[random.Intn(len(numbers))]
		b = summed(head('S', 'R', byte(random.Intn(6)), r.Tenant, r.Epoch, n, r.Seq, uint32(len(r.Body)))[:35], r.Body)
		return b[:len(b)-random.Intn(2)]
	case 4:
		length := uint32(random.Intn(2000))
		return summed(head('S', 'R', 1, r.Tenant, r.Epoch, r.Object, r.Seq, length)[:35], r.Body)
	}
	return []byte(textOf(random.Int63(), random.Intn(80)))
}
