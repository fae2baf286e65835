package store

import (
	"bytes"
	"math"

	"chancery/api"
	"chancery/plate"
	"chancery/wal"
)

const (
	marks           = 2 // sectors
	generationBytes = 4
	noGeneration    = 0
)

// How layer 14 cuts a record in sectors. A log tells only how much fits behind what is there, and a half is asked ahead of cutting that off.
const (
	recordLength = 4  // bytes of a record's length
	partBytes    = 48 // bytes of a record in a sector
)

// halfSize is how many sectors a half has.
func halfSize(p *plate.Plate) int { return (p.Sectors() - marks) / 2 }

// roomInHalf is how many bytes a log's first record may have.
func roomInHalf(p *plate.Plate) int {
	return min(halfSize(p)*partBytes-recordLength, api.MaxBytes)
}

// firstSector is the first one of a generation's half.
func firstSector(p *plate.Plate, generation int) int {
	if generation%2 == 1 {
		return marks
	}
	return marks + halfSize(p)
}

func openLog(p *plate.Plate, generation int) (*wal.Log, api.Errno) {
	from := firstSector(p, generation)
	return wal.Open(p, from, from+halfSize(p), generation)
}

// beginLog begins a generation. An earlier beginning of the same one may have left its log behind, without a mark: that is cut off (whose being opened ahead of it would write and tell nothing).
func beginLog(p *plate.Plate, generation int, first []byte) (*wal.Log, api.Errno) {
	if e := writeSafe(p, firstSector(p, generation), make([]byte, api.Sector)); e != api.OK {
		return nil, e
	}
	log, e := openLog(p, generation)
	if e != api.OK {
		return nil, e
	}
	if e := log.Append(first); e != api.OK {
		return nil, e
	}
	if e := writeSafe(p, markPlace(generation), markOf(generation)); e != api.OK {
		return nil, e
	}
	return log, api.OK
}

func writeSafe(p *plate.Plate, at int, sector []byte) api.Errno {
	if e := p.Write(at, sector); e != api.OK {
		return e
	}
	return p.Sync()
}

func markPlace(generation int) int { return generation % 2 }

func markOf(generation int) []byte {
	b := addNumber(make([]byte, 0, api.Sector), generationBytes, generation)
	b = addNumber(b, generationBytes, ^generation)
	return b[:api.Sector]
}

// readMark is the generation of a sector's mark, or noGeneration, if it is no mark.
func readMark(sector []byte, at int) int {
	generation := readNumber(sector[:generationBytes])
	if generation > math.MaxInt32 || markPlace(generation) != at || !bytes.Equal(sector, markOf(generation)) {
		return noGeneration
	}
	return generation
}

// greaterMark is the greater generation of the marks, or noGeneration, if there is none.
func greaterMark(p *plate.Plate) (int, api.Errno) {
	greater := noGeneration
	for at := range marks {
		sector, e := p.Read(at)
		if e != api.OK {
			return 0, e
		}
		greater = max(greater, readMark(sector, at))
	}
	return greater, api.OK
}
