package tests

import (
	"math/big"
	"slices"

	"loop.example/s01854/impl"
)

// The model of the run file reads without care for the shortest forms, writes what it has read again, and takes it for right when the same bytes come out.

func modelCrc(b string) uint32 {
	c := uint32(0xffffffff)
	for i := 0; i < len(b); i++ {
		c ^= uint32(b[i])
		for k := 0; k < 8; k++ {
			low := c & 1
			c /= 2
			if low == 1 {
				c ^= 0xedb88320
			}
		}
	}
	return c ^ 0xffffffff
}

func modelNumber(n uint64) string {
	text := ""
	for {
		group := byte(n % 128)
		n /= 128
		if n == 0 {
			return text + string([]byte{group})
		}
		text += string([]byte{group + 128})
	}
}

func modelString(s string) string { return modelNumber(uint64(len(s))) + s }

func modelFixed(n uint32) string {
	text := ""
	for k := 0; k < 4; k++ {
		text += string([]byte{byte(n % 256)})
		n /= 256
	}
	return text
}

func modelBody(entries []impl.Entry) string {
	body := ""
	for i, e := range entries {
		shared := 0
		for i > 0 && shared < len(e.Row) && shared < len(entries[i-1].Row) && e.Row[shared] == entries[i-1].Row[shared] {
			shared++
		}
		body += modelNumber(uint64(shared)) + modelString(e.Row[shared:]) + modelString(e.Fam) + modelString(e.Qual)
		body += modelNumber(e.Ts) + modelNumber(uint64(e.Kind)) + modelString(e.Val)
	}
	return body
}

// rawBlock is a block with what the index tells of it, right or wrong.
type rawBlock struct {
	body  string
	sum   uint32
	size  uint64
	count uint64
	row   string
}

func blockOf(entries ...impl.Entry) rawBlock {
	return bodyBlock(modelBody(entries), len(entries), entries[0].Row)
}

func bodyBlock(body string, count int, row string) rawBlock {
	return rawBlock{body: body, sum: modelCrc(body), size: uint64(len(body)), count: uint64(count), row: row}
}

func indexOf(blocks []rawBlock) string {
	index := modelNumber(uint64(len(blocks)))
	for _, b := range blocks {
		index += modelNumber(b.size) + modelNumber(b.count) + modelString(b.row)
	}
	return index
}

// framed lays an index, right or wrong, behind the blocks and gives it its checksum and length.
func framed(blocks []rawBlock, index string) string {
	file := []byte("RUN1")
	for _, b := range blocks {
		file = append(file, b.body+modelFixed(b.sum)...)
	}
	return string(file) + index + modelFixed(modelCrc(index)) + modelFixed(uint32(len(index)))
}

func fileOf(blocks ...rawBlock) string { return framed(blocks, indexOf(blocks)) }

func modelBlocks(entries []impl.Entry, per int) []rawBlock {
	var blocks []rawBlock
	for len(entries) > 0 {
		n := min(per, len(entries))
		blocks = append(blocks, blockOf(entries[:n]...))
		entries = entries[n:]
	}
	return blocks
}

func modelEncode(entries []impl.Entry, per int) string { return fileOf(modelBlocks(entries, per)...) }

// looseNumber reads a number in any form; ok is false where the text ends in it or it is not below 2^64.
func looseNumber(b string) (n uint64, rest string, ok bool) {
	end := 0
	for end < len(b) && b[end] >= 128 {
		end++
	}
	if end == len(b) {
		return 0, "", false
	}
	value := new(big.Int)
	for i := end; i >= 0; i-- {
		value.Lsh(value, 7)
		value.Or(value, big.NewInt(int64(b[i]%128)))
	}
	return value.Uint64(), b[end+1:], value.IsUint64()
}

func looseString(b string) (s, rest string, ok bool) {
	n, rest, ok := looseNumber(b)
	if !ok || n > uint64(len(rest)) {
		return "", "", false
	}
	return rest[:n], rest[n:], true
}

func modelIndex(index string) ([]rawBlock, bool) {
	n, rest, ok := looseNumber(index)
	if !ok || n > 10000 {
		return nil, false
	}
	var blocks []rawBlock
	for i := uint64(0); i < n; i++ {
		var b rawBlock
		if b.size, rest, ok = looseNumber(rest); !ok {
			return nil, false
		}
		if b.count, rest, ok = looseNumber(rest); !ok {
			return nil, false
		}
		if b.row, rest, ok = looseString(rest); !ok {
			return nil, false
		}
		blocks = append(blocks, b)
	}
	return blocks, indexOf(blocks) == index
}

// modelOpen does the steps 1, 2 and 3 of DecodeRun.
func modelOpen(b string) ([]rawBlock, int64) {
	if len(b) < 13 || b[:4] != "RUN1" {
		return nil, 1
	}
	end := len(b) - 8
	m := 0
	for k := 3; k >= 0; k-- {
		m = m*256 + int(b[end+4+k])
	}
	if end-m < 4 {
		return nil, 1
	}
	index := b[end-m : end]
	if modelFixed(modelCrc(index)) != b[end:end+4] {
		return nil, 2
	}
	blocks, ok := modelIndex(index)
	if !ok {
		return nil, 1
	}
	at := 4
	for i, bl := range blocks {
		if bl.count < 1 || bl.count > 1000 || bl.size > uint64(len(b)) || at+int(bl.size)+4 > end-m {
			return nil, 1
		}
		sumAt := at + int(bl.size)
		blocks[i].body = b[at:sumAt]
		for k := 3; k >= 0; k-- {
			blocks[i].sum = blocks[i].sum*256 + uint32(b[sumAt+k])
		}
		at = sumAt + 4
	}
	if at != end-m {
		return nil, 1
	}
	return blocks, 0
}

func looseEntry(b string, before string) (e impl.Entry, rest string, ok bool) {
	shared, rest, ok := looseNumber(b)
	if !ok || shared > uint64(len(before)) {
		return e, "", false
	}
	if e.Row, rest, ok = looseString(rest); !ok {
		return e, "", false
	}
	e.Row = before[:shared] + e.Row
	if e.Fam, rest, ok = looseString(rest); !ok {
		return e, "", false
	}
	if e.Qual, rest, ok = looseString(rest); !ok {
		return e, "", false
	}
	if e.Ts, rest, ok = looseNumber(rest); !ok {
		return e, "", false
	}
	kind, rest, ok := looseNumber(rest)
	if !ok || kind > 2 {
		return e, "", false
	}
	e.Kind = int64(kind)
	e.Val, rest, ok = looseString(rest)
	return e, rest, ok
}

func modelRight(e impl.Entry) bool {
	lengths := len(e.Row) >= 1 && len(e.Row) <= 64 && len(e.Fam) >= 1 && len(e.Fam) <= 16 && len(e.Qual) <= 64 && len(e.Val) <= 200
	return lengths && (e.Kind == 0 || (e.Kind == 1 || e.Kind == 2) && e.Val == "")
}

// modelRead does step 4 of DecodeRun for one block.
func modelRead(b rawBlock) ([]impl.Entry, int64) {
	if modelCrc(b.body) != b.sum {
		return nil, 2
	}
	var entries []impl.Entry
	rest, before := b.body, ""
	for i := uint64(0); i < b.count; i++ {
		e, behind, ok := looseEntry(rest, before)
		if !ok || !modelRight(e) {
			return nil, 3
		}
		entries = append(entries, e)
		rest, before = behind, e.Row
	}
	if modelBody(entries) != b.body || entries[0].Row != b.row {
		return nil, 3
	}
	return entries, 0
}

func modelDecode(b string) ([]impl.Entry, int64) {
	blocks, err := modelOpen(b)
	if err != 0 {
		return nil, err
	}
	var all []impl.Entry
	for _, bl := range blocks {
		entries, err := modelRead(bl)
		if err != 0 {
			return nil, err
		}
		all = append(all, entries...)
	}
	for i := 1; i < len(all); i++ {
		twice := sameColumn(all[i-1], all[i]) && all[i-1].Kind == 2 && all[i].Kind == 2
		if twice || modelCompare(all[i-1], all[i]) >= 0 {
			return nil, 3
		}
	}
	if len(all) > 10000 {
		return nil, 3
	}
	return all, 0
}

func modelSeek(b string, row string) impl.SeekRes {
	blocks, err := modelOpen(b)
	if err != 0 {
		return impl.SeekRes{Err: err}
	}
	i := len(blocks) - 1
	for i > 0 && modelText(blocks[i].row, row) >= 0 {
		i--
	}
	var res impl.SeekRes
	for ; i >= 0 && i < len(blocks); i++ {
		res.Read++
		entries, err := modelRead(blocks[i])
		if err != 0 {
			return impl.SeekRes{Err: err, Read: res.Read}
		}
		at := slices.IndexFunc(entries, func(e impl.Entry) bool { return modelText(e.Row, row) >= 0 })
		if at >= 0 {
			return impl.SeekRes{Found: true, Entry: entries[at], Read: res.Read}
		}
	}
	return res
}
